/- node: the canonical tokens of a node, in memory. -/
import Derived.Test.YtpodpahipapbaaaDoorSig
namespace Go.Proofs.YtpodpahipapbaaaDoor
open Go.RowKit Go.BigFrame Go.Proofs.YtpodpahipapbaaaDoor.Ev
set_option linter.unusedVariables false
set_option linter.unusedSimpArgs false

theorem small2 (a b : Pce) (h : a.ts.length + b.ts.length ≤ 100000000) : ∀ k, k ≤ [a, b].length → (glueP ([a, b].take k)).ts.length ≤ 100000000 := by
  intro k hk
  have hk3 : k ≤ 2 := hk
  rcases (show k = 0 ∨ k = 1 ∨ k = 2 by omega) with rfl | rfl | rfl
  all_goals
    simp [glueP, stepP, noP]
    try omega
theorem sz_le {ns : List Nd} {bs : List Int} (W : ∀ i, i < ns.length → WsAt ns bs i) (i : Nat) (hi : i < ns.length) : szN bs i ≤ i + 1 := by
  have := (W i hi).lo
  unfold szN
  omega
theorem fits_mono {p : Pce} {m k : Nat} (h : Fits p m) (hk : m ≤ k) : Fits p k := ⟨by have := h.1; omega, h.2.1, by have := h.2.2; omega⟩
set_option maxRecDepth 100000 in
set_option maxHeartbeats 8000000 in
theorem node_any (ns : List Nd) (bs : List Int) (W : ∀ i, i < ns.length → WsAt ns bs i) (hl : ns.length ≤ 100000) : ∀ f i, i < f → i < ns.length → NodeAt ns f i := by
  intro f
  induction f with
  | zero => intro i h; omega
  | succ f ih =>
    intro i hf hi ao cap w A
    have hw := W i hi
    have hii : (i : Int) < (ns.length : Int) := by omega
    have cO : ∀ (j : Nat) (need : Int), j < i → ∀ u, Below w.heap.size w u → Calls Tryd.prog 26 #[.slice ao ns.length cap, .int .i64 (j : Int), .int .i64 need] u fun e w' => ∃ v, e = .returned v ∧ PcA w' u.heap.size v (oprP (nodP ns f) ns j need) ∧ Below u.heap.size u w' := fun j need hj u g =>
      operand_any ns f j (by omega) (by omega) (fits_mono (nod_fits ns bs W f j (by omega) (by omega)) (by have := sz_le W j (by omega); omega)) need (ih j (by omega) (by omega)) ao cap u (A.keep g)
    have fO : ∀ (j : Nat) (need : Int), j < i → (oprP (nodP ns f) ns j need).ts.length ≤ 10000000 ∧ 0 ≤ (oprP (nodP ns f) ns j need).d ∧ (oprP (nodP ns f) ns j need).d ≤ 10000000 := fun j need hj => by
      have h1 := opr_fits (ns := ns) (need := need) (nod_fits ns bs W f j (by omega) (by omega))
      have h2 := sz_le W j (by omega)
      omega
    obtain ⟨q, hq⟩ : ∃ q, nodP ns (f + 1) i = q := ⟨_, rfl⟩
    have HQ : Hid (nodP ns (f + 1) i = q) := hq
    unfold nodP at hq
    have HU := show Hid (_ = q) from hq
    clear hq
    have cL := level_any (ns.getD i noNd).op
    have B1 := galloc (Below.refl w.heap.size w) (.cells #[.slice none 0 0, .int .i64 0] 36)
    obtain ⟨g, o, rfl, x0, x1, x2, x3, x4, x5⟩ := A.keep B1 i hi
    obtain ⟨n, hn⟩ : ∃ n, ns.length = n := ⟨_, rfl⟩
    rw [hn] at cO hii ⊢
    obtain ⟨wl, wlo, _, w1, w2⟩ := hw
    generalize ns.getD i noNd = y at *
    go_enter Tryd.func16, Tryd.ntmps16
    have R0 := (Two.new w (.slice none 0 0) (.int .i64 0) 36).alloc (.cells (ndA y) 32)
    have N0 := NlAt.new (w.alloc (.cells #[.slice none 0 0, .int .i64 0] 36)) y
    rw [show (w.alloc (.cells #[.slice none 0 0, .int .i64 0] 36)).heap.size = w.heap.size + 1 by simp] at N0
    have B0 := galloc B1 (.cells (ndA y) 32)
    have zV : ((w.alloc (.cells #[.slice none 0 0, .int .i64 0] 36)).alloc (.cells (ndA y) 32)).heap.size = w.heap.size + 2 := by simp
    simp only [ndA] at R0 B0 zV
    replace N0 : ((w.alloc (.cells #[.slice none 0 0, .int .i64 0] 36)).alloc (.cells #[.int .i64 y.op, .int .i64 y.n, .string y.v, .string y.x, .int .i64 y.l, .int .i64 y.r] 32)).heap[w.heap.size + 1]? = some (.cells (ndA y) 32 (0, 0)) := N0
    go_upto_region 2 with fail
    generalize hVd : (w.alloc (.cells #[.slice none 0 0, .int .i64 0] 36)).alloc (.cells #[.int .i64 y.op, .int .i64 y.n, .string y.v, .string y.x, .int .i64 y.l, .int .i64 y.r] 32) = V at *
    replace N0 : NlAt V (w.heap.size + 1) y := N0
    have HZ : Hid (V.heap.size = w.heap.size + 2) := zV
    clear zV hVd x0 x1 x2 x3 x4 x5
    obtain ⟨a0, a1, a2, a3, a4, a5⟩ := N0.at
    have GV := (Below.refl V.heap.size V).drew
    have GA := fun o => (galloc (Below.refl V.heap.size V) o).drew
    rcases lvl_cases wl with ⟨h1, h2⟩ | ⟨h1, h2⟩ | ⟨h1, h2⟩ | ⟨h1, h2⟩
    · rw [h2] at cL
      have hq : lfP y = q := by have := HU.out; rw [h2, if_neg (by decide), if_neg (by decide), if_neg (by decide), if_neg (by decide), if_neg (by decide), if_neg (by decide), if_neg (by decide)] at this; exact this
      have cF := fun u : World => leaf_any y ⟨wl.1, h1⟩ u
      rw [hq] at cF
      simp only [ndA] at cF
      clear hq HU ih A
      go_wp2_with (first
        | (go_at_call 24; (with_reducible refine (cL _).mono ?_); rintro e uL ⟨rfl, rfl⟩)
        | (go_at_call 30; (with_reducible refine (cF _).mono ?_); rintro e u4 ⟨v4, rfl, ⟨t4, rfl, O4⟩, G4⟩; obtain ⟨vo, vc, rfl⟩ := own_shape O4; have R4 := R0.keep G4; have r0 := R4.at0; have r1 := R4.at1; have f0 := R4.free 0; have f1 := R4.free 1))
      obtain ⟨e1, e2, e3⟩ := piece_endG (w := w) (q := q) (Nat.le_refl _) (by have := HZ.out; omega) R4 O4 (gtrans B0 G4)
      have r5 := e3.at0
      have r6 := e3.at1
      refine bodyPost_ret (v := .agg #[.slice vo q.ts.length vc, .int .i64 q.d]) (by simp [results, Tryd.results16, go_sem, r5, r6]) rfl ⟨_, rfl, by rw [HQ.out]; exact e1, e2⟩
    · obtain ⟨j, hj1, hj2⟩ : ∃ j : Nat, y.l = (j : Int) ∧ j < i := ⟨i - 1, by have := w1 (.inl h1); omega, by have := w1 (.inl h1); omega⟩
      have hSn : ∀ X, Below V.heap.size V X → X.cell? ⟨w.heap.size + 1, 4, none⟩ = some (.int .i64 (j : Int)) := fun X g => by rw [← hj1]; exact (N0.keep g).at.2.2.2.2.1
      rw [h2, h1] at cL
      rw [h1] at a0
      have hq : openP [fixP [12], oprP (nodP ns f) ns j 7] = q := by have := HU.out; rw [h2, if_neg (by decide), if_neg (by decide), if_neg (by decide), if_neg (by decide), if_neg (by decide), if_neg (by decide), if_pos rfl, hj1, Int.toNat_natCast] at this; exact this
      have cA := cO j 7 hj2
      obtain ⟨s1, s2, s3⟩ := fO j 7 hj2
      generalize oprP (nodP ns f) ns j 7 = pa at *
      obtain ⟨e1, e2⟩ := glue2 (fixP [12]) pa
      have cK : ∀ (u : World) (g : Nat), IsKs u (some ⟨g, 0, none⟩) [12] → Calls Tryd.prog 27 #[.slice (some ⟨g, 0, none⟩) 1 1] u fun e w' => ∃ v, e = .returned v ∧ PcA w' u.heap.size v (fixP [12]) ∧ Below u.heap.size u w' := fun u g A => fixed_any [12] (by simp) _ _ u A
      have cG : ∀ (u : World) (g : Nat), IsPcs u (some ⟨g, 0, none⟩) [fixP [12], pa] → Calls Tryd.prog 28 #[.slice (some ⟨g, 0, none⟩) 2 2] u fun e w' => ∃ v, e = .returned v ∧ PcA w' u.heap.size v q ∧ Below u.heap.size u w' := fun u g A => by
        rw [← hq]
        exact opened_any [fixP [12], pa] (by simp) (small2 _ _ (by rw [(fix_d [12]).2]; simp; omega)) ⟨by rw [e2]; exact maxI_ge (maxI_ge (Int.le_refl 0)), by rw [e2]; exact maxI_le (maxI_le (by omega) (by rw [(fix_d [12]).1]; omega)) (by omega)⟩ _ _ u A
      clear hq e1 e2 HU ih A
      go_wp2_with (first
        | (go_at_call 24; (with_reducible refine (cL _).mono ?_); rintro e uL ⟨rfl, rfl⟩))
      go_region_held3 (fun X : World => X.cell? ⟨w.heap.size + 1, 4, none⟩ = some (.int .i64 (j : Int))) (first | (with_reducible exact hSn _ GV) | (with_reducible exact hSn _ (GA _)) | (with_reducible exact hSn _ G1) | (with_reducible exact hSn _ G2) | (with_reducible exact hSn _ (galloc G2 _)) | (with_reducible exact hSn _ G4) | go_keep) (first
        | (go_at_call 27; (with_reducible refine (cK _ _ ?ks).mono ?_); (case ks => (exact (ks1e (by simp) 12).drew)); rintro e u1 ⟨v1, rfl, P1, g1⟩; obtain ⟨t1, k1, rfl, T1, n1⟩ := pc_toks P1; have G1 : Below V.heap.size V u1 := gtrans (GA _) g1)
        | (go_at_call 26; (with_reducible refine (cA _ (gtrans B0 G1)).mono ?_); rintro e u2 ⟨v2, rfl, P2, g2⟩; obtain ⟨t2, k2, rfl, T2, n2⟩ := pc_toks P2; have G2 := gtrans G1 g2)
        | (go_at_call 28; (with_reducible refine (cG _ _ (pcs2 (T1.keep g2) T2 n1 n2)).mono ?_); rintro e u4 ⟨v4, rfl, ⟨t4, rfl, O4⟩, g4⟩; have G4 := gtrans (galloc G2 _) g4; obtain ⟨vo, vc, rfl⟩ := own_shape O4; have R4 := R0.keep G4; have r0 := R4.at0; have r1 := R4.at1; have f0 := R4.free 0; have f1 := R4.free 1))
      all_goals
        have zb : w.heap.size + 2 ≤ u2.heap.size := by have := G2.size; have := HZ.out; omega
        obtain ⟨e1, e2, e3⟩ := piece_endG (w := w) (q := q) (Nat.le_refl _) (by simp; omega) R4 O4 (gtrans B0 G4)
        have r5 := e3.at0
        have r6 := e3.at1
        clear cO cL fO cA cK cG hSn
        go_wp2
        refine bodyPost_ret (v := .agg #[.slice vo q.ts.length vc, .int .i64 q.d]) (by simp [results, Tryd.results16, go_sem, r5, r6]) rfl ⟨_, rfl, by rw [HQ.out]; exact e1, e2⟩
    · obtain ⟨j, hj1, hj2⟩ : ∃ j : Nat, y.l = (j : Int) ∧ j < i := ⟨i - 1, by have := w1 (.inr h1); omega, by have := w1 (.inr h1); omega⟩
      have hSn : ∀ X, Below V.heap.size V X → X.cell? ⟨w.heap.size + 1, 4, none⟩ = some (.int .i64 (j : Int)) := fun X g => by rw [← hj1]; exact (N0.keep g).at.2.2.2.2.1
      rw [h2, h1] at cL
      rw [h1] at a0
      have hq : openP [fixP [43], oprP (nodP ns f) ns j 3] = q := by have := HU.out; rw [h2, if_neg (by decide), if_neg (by decide), if_pos rfl, hj1, Int.toNat_natCast] at this; exact this
      have cA := cO j 3 hj2
      obtain ⟨s1, s2, s3⟩ := fO j 3 hj2
      generalize oprP (nodP ns f) ns j 3 = pa at *
      obtain ⟨e1, e2⟩ := glue2 (fixP [43]) pa
      have cK : ∀ (u : World) (g : Nat), IsKs u (some ⟨g, 0, none⟩) [43] → Calls Tryd.prog 27 #[.slice (some ⟨g, 0, none⟩) 1 1] u fun e w' => ∃ v, e = .returned v ∧ PcA w' u.heap.size v (fixP [43]) ∧ Below u.heap.size u w' := fun u g A => fixed_any [43] (by simp) _ _ u A
      have cG : ∀ (u : World) (g : Nat), IsPcs u (some ⟨g, 0, none⟩) [fixP [43], pa] → Calls Tryd.prog 28 #[.slice (some ⟨g, 0, none⟩) 2 2] u fun e w' => ∃ v, e = .returned v ∧ PcA w' u.heap.size v q ∧ Below u.heap.size u w' := fun u g A => by
        rw [← hq]
        exact opened_any [fixP [43], pa] (by simp) (small2 _ _ (by rw [(fix_d [43]).2]; simp; omega)) ⟨by rw [e2]; exact maxI_ge (maxI_ge (Int.le_refl 0)), by rw [e2]; exact maxI_le (maxI_le (by omega) (by rw [(fix_d [43]).1]; omega)) (by omega)⟩ _ _ u A
      clear hq e1 e2 HU ih A
      go_wp2_with (first
        | (go_at_call 24; (with_reducible refine (cL _).mono ?_); rintro e uL ⟨rfl, rfl⟩))
      go_region_held3 (fun X : World => X.cell? ⟨w.heap.size + 1, 4, none⟩ = some (.int .i64 (j : Int))) (first | (with_reducible exact hSn _ GV) | (with_reducible exact hSn _ (GA _)) | (with_reducible exact hSn _ G1) | (with_reducible exact hSn _ G2) | (with_reducible exact hSn _ (galloc G2 _)) | (with_reducible exact hSn _ G4) | go_keep) (first
        | (go_at_call 27; (with_reducible refine (cK _ _ ?ks).mono ?_); (case ks => (exact (ks1e (by simp) 43).drew)); rintro e u1 ⟨v1, rfl, P1, g1⟩; obtain ⟨t1, k1, rfl, T1, n1⟩ := pc_toks P1; have G1 : Below V.heap.size V u1 := gtrans (GA _) g1)
        | (go_at_call 26; (with_reducible refine (cA _ (gtrans B0 G1)).mono ?_); rintro e u2 ⟨v2, rfl, P2, g2⟩; obtain ⟨t2, k2, rfl, T2, n2⟩ := pc_toks P2; have G2 := gtrans G1 g2)
        | (go_at_call 28; (with_reducible refine (cG _ _ (pcs2 (T1.keep g2) T2 n1 n2)).mono ?_); rintro e u4 ⟨v4, rfl, ⟨t4, rfl, O4⟩, g4⟩; have G4 := gtrans (galloc G2 _) g4; obtain ⟨vo, vc, rfl⟩ := own_shape O4; have R4 := R0.keep G4; have r0 := R4.at0; have r1 := R4.at1; have f0 := R4.free 0; have f1 := R4.free 1))
      all_goals
        have zb : w.heap.size + 2 ≤ u2.heap.size := by have := G2.size; have := HZ.out; omega
        obtain ⟨e1, e2, e3⟩ := piece_endG (w := w) (q := q) (Nat.le_refl _) (by simp; omega) R4 O4 (gtrans B0 G4)
        have r5 := e3.at0
        have r6 := e3.at1
        clear cO cL fO cA cK cG hSn
        go_wp2
        refine bodyPost_ret (v := .agg #[.slice vo q.ts.length vc, .int .i64 q.d]) (by simp [results, Tryd.results16, go_sem, r5, r6]) rfl ⟨_, rfl, by rw [HQ.out]; exact e1, e2⟩
    · obtain ⟨p, hr, hz, hl', hb'⟩ := w2 h1
      have hlo := (W (i - 1) (by omega)).lo
      obtain ⟨a, ha1, ha2⟩ : ∃ a : Nat, y.l = (a : Int) ∧ a < i := ⟨y.l.toNat, by omega, by omega⟩
      obtain ⟨b, hb1, hb2⟩ : ∃ b : Nat, y.r = (b : Int) ∧ b < i := ⟨i - 1, by omega, by omega⟩
      have hSn : ∀ X, Below V.heap.size V X → X.cell? ⟨w.heap.size + 1, 0, none⟩ = some (.int .i64 y.op) ∧ X.cell? ⟨w.heap.size + 1, 4, none⟩ = some (.int .i64 (a : Int)) ∧ X.cell? ⟨w.heap.size + 1, 5, none⟩ = some (.int .i64 (b : Int)) := fun X g => by rw [← ha1, ← hb1]; exact ⟨(N0.keep g).at.1, (N0.keep g).at.2.2.2.2.1, (N0.keep g).at.2.2.2.2.2⟩
      have wl2 := wl.2
      clear w1 w2 wlo hl' hb' hr hz hlo
      rcases h2 with h2 | h2 | h2 | h2 | h2
      · rw [h2] at cL
        have hq : glueP [oprP (nodP ns f) ns a 1, fixP [42], oprP (nodP ns f) ns b 2] = q := by have := HU.out; rw [h2, if_pos rfl, ha1, hb1, Int.toNat_natCast, Int.toNat_natCast] at this; exact this
        have cA := cO a 1 ha2
        have cB := cO b 2 hb2
        obtain ⟨s1, s2, s3⟩ := fO a 1 ha2
        obtain ⟨s4, s5, s6⟩ := fO b 2 hb2
        generalize oprP (nodP ns f) ns a 1 = pa at *
        generalize oprP (nodP ns f) ns b 2 = pb at *
        have cS := sign_any y.op (by omega) (by omega)
        have cK : ∀ (u : World) (g : Nat), IsKs u (some ⟨g, 0, none⟩) [42] → Calls Tryd.prog 27 #[.slice (some ⟨g, 0, none⟩) 1 1] u fun e w' => ∃ v, e = .returned v ∧ PcA w' u.heap.size v (fixP [42]) ∧ Below u.heap.size u w' := fun u g A => fixed_any [42] (by simp) _ _ u A
        have cG : ∀ (u : World) (g : Nat), IsPcs u (some ⟨g, 0, none⟩) [pa, fixP [42], pb] → Calls Tryd.prog 25 #[.slice (some ⟨g, 0, none⟩) 3 3] u fun e w' => ∃ v, e = .returned v ∧ PcA w' u.heap.size v q ∧ Below u.heap.size u w' := fun u g A => by
          rw [← hq]
          exact glue_any [pa, fixP [42], pb] (by simp) (small3 _ _ _ (by rw [(fix_d [42]).2]; simp; omega)) _ _ u A
        clear hq HU ih A
        go_wp2_with (first
          | (go_at_call 24; (with_reducible refine (cL _).mono ?_); rintro e uL ⟨rfl, rfl⟩))
        go_region_held3 (fun X : World => X.cell? ⟨w.heap.size + 1, 0, none⟩ = some (.int .i64 y.op) ∧ X.cell? ⟨w.heap.size + 1, 4, none⟩ = some (.int .i64 (a : Int)) ∧ X.cell? ⟨w.heap.size + 1, 5, none⟩ = some (.int .i64 (b : Int))) (first | (with_reducible exact hSn _ GV) | (with_reducible exact hSn _ (GA _)) | (with_reducible exact hSn _ G1) | (with_reducible exact hSn _ (galloc G1 _)) | (with_reducible exact hSn _ G2) | (with_reducible exact hSn _ G3) | (with_reducible exact hSn _ (galloc G3 _)) | (with_reducible exact hSn _ G4) | go_keep) (first
          | (go_at_call 26; (first | (with_reducible refine (cA _ (gtrans B0 GV)).mono ?_) | (with_reducible refine (cA _ (gtrans B0 (GA _))).mono ?_)); rintro e u1 ⟨v1, rfl, P1, g1⟩; obtain ⟨t1, k1, rfl, T1, n1⟩ := pc_toks P1; have G1 : Below V.heap.size V u1 := (by first | exact gtrans GV g1 | exact gtrans (GA _) g1))
          | (go_at_call 29; (with_reducible refine (cS _).mono ?_); rintro e uS ⟨rfl, rfl⟩)
          | (go_at_call 27; (with_reducible refine (cK _ _ ?ks).mono ?_); (case ks => (first | exact ks1e rfl _ | exact ((ks1e rfl _).drew.keep g1))); rintro e u2 ⟨v2, rfl, P2, g2⟩; obtain ⟨t2, k2, rfl, T2, n2⟩ := pc_toks P2; have G12 : Below u1.heap.size u1 u2 := (by first | exact g2 | exact gtrans (galloc (Below.refl _ _) _) g2); have G2 := gtrans G1 G12)
          | (go_at_call 26; (with_reducible refine (cB _ (gtrans B0 G2)).mono ?_); rintro e u3 ⟨v3, rfl, P3, g3⟩; obtain ⟨t3, k3, rfl, T3, n3⟩ := pc_toks P3; have G3 := gtrans G2 g3)
          | (go_at_call 25; (with_reducible refine (cG _ _ (pcs3 (T1.keep (gtrans G12 g3)) (T2.keep g3) T3 n1 n2 n3)).mono ?_); rintro e u4 ⟨v4, rfl, ⟨t4, rfl, O4⟩, g4⟩; have G4 := gtrans (galloc G3 _) g4; obtain ⟨vo, vc, rfl⟩ := own_shape O4; have R4 := R0.keep G4; have r0 := R4.at0; have r1 := R4.at1; have f0 := R4.free 0; have f1 := R4.free 1))
        all_goals
          have zb : w.heap.size + 2 ≤ u3.heap.size := by have := G3.size; have := HZ.out; omega
          obtain ⟨e1, e2, e3⟩ := piece_endG (w := w) (q := q) (Nat.le_refl _) (by simp; omega) R4 O4 (gtrans B0 G4)
          have r5 := e3.at0
          have r6 := e3.at1
          clear cO cL fO cA cB cS cK cG hSn
          go_wp2
          refine bodyPost_ret (v := .agg #[.slice vo q.ts.length vc, .int .i64 q.d]) (by simp [results, Tryd.results16, go_sem, r5, r6]) rfl ⟨_, rfl, by rw [HQ.out]; exact e1, e2⟩
      · rw [h2] at cL
        have hq : glueP [oprP (nodP ns f) ns a 2, fixP [41], oprP (nodP ns f) ns b 3] = q := by have := HU.out; rw [h2, if_neg (by decide), if_pos rfl, ha1, hb1, Int.toNat_natCast, Int.toNat_natCast] at this; exact this
        have cA := cO a 2 ha2
        have cB := cO b 3 hb2
        obtain ⟨s1, s2, s3⟩ := fO a 2 ha2
        obtain ⟨s4, s5, s6⟩ := fO b 3 hb2
        generalize oprP (nodP ns f) ns a 2 = pa at *
        generalize oprP (nodP ns f) ns b 3 = pb at *
        have cS := sign_any y.op (by omega) (by omega)
        have cK : ∀ (u : World) (g : Nat), IsKs u (some ⟨g, 0, none⟩) [41] → Calls Tryd.prog 27 #[.slice (some ⟨g, 0, none⟩) 1 1] u fun e w' => ∃ v, e = .returned v ∧ PcA w' u.heap.size v (fixP [41]) ∧ Below u.heap.size u w' := fun u g A => fixed_any [41] (by simp) _ _ u A
        have cG : ∀ (u : World) (g : Nat), IsPcs u (some ⟨g, 0, none⟩) [pa, fixP [41], pb] → Calls Tryd.prog 25 #[.slice (some ⟨g, 0, none⟩) 3 3] u fun e w' => ∃ v, e = .returned v ∧ PcA w' u.heap.size v q ∧ Below u.heap.size u w' := fun u g A => by
          rw [← hq]
          exact glue_any [pa, fixP [41], pb] (by simp) (small3 _ _ _ (by rw [(fix_d [41]).2]; simp; omega)) _ _ u A
        clear hq HU ih A
        go_wp2_with (first
          | (go_at_call 24; (with_reducible refine (cL _).mono ?_); rintro e uL ⟨rfl, rfl⟩))
        go_region_held3 (fun X : World => X.cell? ⟨w.heap.size + 1, 0, none⟩ = some (.int .i64 y.op) ∧ X.cell? ⟨w.heap.size + 1, 4, none⟩ = some (.int .i64 (a : Int)) ∧ X.cell? ⟨w.heap.size + 1, 5, none⟩ = some (.int .i64 (b : Int))) (first | (with_reducible exact hSn _ GV) | (with_reducible exact hSn _ (GA _)) | (with_reducible exact hSn _ G1) | (with_reducible exact hSn _ (galloc G1 _)) | (with_reducible exact hSn _ G2) | (with_reducible exact hSn _ G3) | (with_reducible exact hSn _ (galloc G3 _)) | (with_reducible exact hSn _ G4) | go_keep) (first
          | (go_at_call 26; (first | (with_reducible refine (cA _ (gtrans B0 GV)).mono ?_) | (with_reducible refine (cA _ (gtrans B0 (GA _))).mono ?_)); rintro e u1 ⟨v1, rfl, P1, g1⟩; obtain ⟨t1, k1, rfl, T1, n1⟩ := pc_toks P1; have G1 : Below V.heap.size V u1 := (by first | exact gtrans GV g1 | exact gtrans (GA _) g1))
          | (go_at_call 29; (with_reducible refine (cS _).mono ?_); rintro e uS ⟨rfl, rfl⟩)
          | (go_at_call 27; (with_reducible refine (cK _ _ ?ks).mono ?_); (case ks => (first | exact ks1e rfl _ | exact ((ks1e rfl _).drew.keep g1))); rintro e u2 ⟨v2, rfl, P2, g2⟩; obtain ⟨t2, k2, rfl, T2, n2⟩ := pc_toks P2; have G12 : Below u1.heap.size u1 u2 := (by first | exact g2 | exact gtrans (galloc (Below.refl _ _) _) g2); have G2 := gtrans G1 G12)
          | (go_at_call 26; (with_reducible refine (cB _ (gtrans B0 G2)).mono ?_); rintro e u3 ⟨v3, rfl, P3, g3⟩; obtain ⟨t3, k3, rfl, T3, n3⟩ := pc_toks P3; have G3 := gtrans G2 g3)
          | (go_at_call 25; (with_reducible refine (cG _ _ (pcs3 (T1.keep (gtrans G12 g3)) (T2.keep g3) T3 n1 n2 n3)).mono ?_); rintro e u4 ⟨v4, rfl, ⟨t4, rfl, O4⟩, g4⟩; have G4 := gtrans (galloc G3 _) g4; obtain ⟨vo, vc, rfl⟩ := own_shape O4; have R4 := R0.keep G4; have r0 := R4.at0; have r1 := R4.at1; have f0 := R4.free 0; have f1 := R4.free 1))
        all_goals
          have zb : w.heap.size + 2 ≤ u3.heap.size := by have := G3.size; have := HZ.out; omega
          obtain ⟨e1, e2, e3⟩ := piece_endG (w := w) (q := q) (Nat.le_refl _) (by simp; omega) R4 O4 (gtrans B0 G4)
          have r5 := e3.at0
          have r6 := e3.at1
          clear cO cL fO cA cB cS cK cG hSn
          go_wp2
          refine bodyPost_ret (v := .agg #[.slice vo q.ts.length vc, .int .i64 q.d]) (by simp [results, Tryd.results16, go_sem, r5, r6]) rfl ⟨_, rfl, by rw [HQ.out]; exact e1, e2⟩
      · rw [h2] at cL
        have hq : glueP [oprP (nodP ns f) ns a 5, fixP [11 + (y.op - 14)], oprP (nodP ns f) ns b 5] = q := by have := HU.out; rw [h2, if_neg (by decide), if_neg (by decide), if_neg (by decide), if_pos rfl, ha1, hb1, Int.toNat_natCast, Int.toNat_natCast] at this; exact this
        have cA := cO a 5 ha2
        have cB := cO b 5 hb2
        obtain ⟨s1, s2, s3⟩ := fO a 5 ha2
        obtain ⟨s4, s5, s6⟩ := fO b 5 hb2
        generalize oprP (nodP ns f) ns a 5 = pa at *
        generalize oprP (nodP ns f) ns b 5 = pb at *
        have cS := sign_any y.op (by omega) (by omega)
        have cK : ∀ (u : World) (g : Nat), IsKs u (some ⟨g, 0, none⟩) [11 + (y.op - 14)] → Calls Tryd.prog 27 #[.slice (some ⟨g, 0, none⟩) 1 1] u fun e w' => ∃ v, e = .returned v ∧ PcA w' u.heap.size v (fixP [11 + (y.op - 14)]) ∧ Below u.heap.size u w' := fun u g A => fixed_any [11 + (y.op - 14)] (by simp) _ _ u A
        have cG : ∀ (u : World) (g : Nat), IsPcs u (some ⟨g, 0, none⟩) [pa, fixP [11 + (y.op - 14)], pb] → Calls Tryd.prog 25 #[.slice (some ⟨g, 0, none⟩) 3 3] u fun e w' => ∃ v, e = .returned v ∧ PcA w' u.heap.size v q ∧ Below u.heap.size u w' := fun u g A => by
          rw [← hq]
          exact glue_any [pa, fixP [11 + (y.op - 14)], pb] (by simp) (small3 _ _ _ (by rw [(fix_d [11 + (y.op - 14)]).2]; simp; omega)) _ _ u A
        clear hq HU ih A
        go_wp2_with (first
          | (go_at_call 24; (with_reducible refine (cL _).mono ?_); rintro e uL ⟨rfl, rfl⟩))
        go_region_held3 (fun X : World => X.cell? ⟨w.heap.size + 1, 0, none⟩ = some (.int .i64 y.op) ∧ X.cell? ⟨w.heap.size + 1, 4, none⟩ = some (.int .i64 (a : Int)) ∧ X.cell? ⟨w.heap.size + 1, 5, none⟩ = some (.int .i64 (b : Int))) (first | (with_reducible exact hSn _ GV) | (with_reducible exact hSn _ (GA _)) | (with_reducible exact hSn _ G1) | (with_reducible exact hSn _ (galloc G1 _)) | (with_reducible exact hSn _ G2) | (with_reducible exact hSn _ G3) | (with_reducible exact hSn _ (galloc G3 _)) | (with_reducible exact hSn _ G4) | go_keep) (first
          | (go_at_call 26; (first | (with_reducible refine (cA _ (gtrans B0 GV)).mono ?_) | (with_reducible refine (cA _ (gtrans B0 (GA _))).mono ?_)); rintro e u1 ⟨v1, rfl, P1, g1⟩; obtain ⟨t1, k1, rfl, T1, n1⟩ := pc_toks P1; have G1 : Below V.heap.size V u1 := (by first | exact gtrans GV g1 | exact gtrans (GA _) g1))
          | (go_at_call 29; (with_reducible refine (cS _).mono ?_); rintro e uS ⟨rfl, rfl⟩)
          | (go_at_call 27; (with_reducible refine (cK _ _ ?ks).mono ?_); (case ks => (first | exact ks1e rfl _ | exact ((ks1e rfl _).drew.keep g1))); rintro e u2 ⟨v2, rfl, P2, g2⟩; obtain ⟨t2, k2, rfl, T2, n2⟩ := pc_toks P2; have G12 : Below u1.heap.size u1 u2 := (by first | exact g2 | exact gtrans (galloc (Below.refl _ _) _) g2); have G2 := gtrans G1 G12)
          | (go_at_call 26; (with_reducible refine (cB _ (gtrans B0 G2)).mono ?_); rintro e u3 ⟨v3, rfl, P3, g3⟩; obtain ⟨t3, k3, rfl, T3, n3⟩ := pc_toks P3; have G3 := gtrans G2 g3)
          | (go_at_call 25; (with_reducible refine (cG _ _ (pcs3 (T1.keep (gtrans G12 g3)) (T2.keep g3) T3 n1 n2 n3)).mono ?_); rintro e u4 ⟨v4, rfl, ⟨t4, rfl, O4⟩, g4⟩; have G4 := gtrans (galloc G3 _) g4; obtain ⟨vo, vc, rfl⟩ := own_shape O4; have R4 := R0.keep G4; have r0 := R4.at0; have r1 := R4.at1; have f0 := R4.free 0; have f1 := R4.free 1))
        all_goals
          have zb : w.heap.size + 2 ≤ u3.heap.size := by have := G3.size; have := HZ.out; omega
          obtain ⟨e1, e2, e3⟩ := piece_endG (w := w) (q := q) (Nat.le_refl _) (by simp; omega) R4 O4 (gtrans B0 G4)
          have r5 := e3.at0
          have r6 := e3.at1
          clear cO cL fO cA cB cS cK cG hSn
          go_wp2
          refine bodyPost_ret (v := .agg #[.slice vo q.ts.length vc, .int .i64 q.d]) (by simp [results, Tryd.results16, go_sem, r5, r6]) rfl ⟨_, rfl, by rw [HQ.out]; exact e1, e2⟩
      · rw [h2] at cL
        have hq : glueP [oprP (nodP ns f) ns a 5, fixP [11 + (y.op - 14)], oprP (nodP ns f) ns b 6] = q := by have := HU.out; rw [h2, if_neg (by decide), if_neg (by decide), if_neg (by decide), if_neg (by decide), if_pos rfl, ha1, hb1, Int.toNat_natCast, Int.toNat_natCast] at this; exact this
        have cA := cO a 5 ha2
        have cB := cO b 6 hb2
        obtain ⟨s1, s2, s3⟩ := fO a 5 ha2
        obtain ⟨s4, s5, s6⟩ := fO b 6 hb2
        generalize oprP (nodP ns f) ns a 5 = pa at *
        generalize oprP (nodP ns f) ns b 6 = pb at *
        have cS := sign_any y.op (by omega) (by omega)
        have cK : ∀ (u : World) (g : Nat), IsKs u (some ⟨g, 0, none⟩) [11 + (y.op - 14)] → Calls Tryd.prog 27 #[.slice (some ⟨g, 0, none⟩) 1 1] u fun e w' => ∃ v, e = .returned v ∧ PcA w' u.heap.size v (fixP [11 + (y.op - 14)]) ∧ Below u.heap.size u w' := fun u g A => fixed_any [11 + (y.op - 14)] (by simp) _ _ u A
        have cG : ∀ (u : World) (g : Nat), IsPcs u (some ⟨g, 0, none⟩) [pa, fixP [11 + (y.op - 14)], pb] → Calls Tryd.prog 25 #[.slice (some ⟨g, 0, none⟩) 3 3] u fun e w' => ∃ v, e = .returned v ∧ PcA w' u.heap.size v q ∧ Below u.heap.size u w' := fun u g A => by
          rw [← hq]
          exact glue_any [pa, fixP [11 + (y.op - 14)], pb] (by simp) (small3 _ _ _ (by rw [(fix_d [11 + (y.op - 14)]).2]; simp; omega)) _ _ u A
        clear hq HU ih A
        go_wp2_with (first
          | (go_at_call 24; (with_reducible refine (cL _).mono ?_); rintro e uL ⟨rfl, rfl⟩))
        go_region_held3 (fun X : World => X.cell? ⟨w.heap.size + 1, 0, none⟩ = some (.int .i64 y.op) ∧ X.cell? ⟨w.heap.size + 1, 4, none⟩ = some (.int .i64 (a : Int)) ∧ X.cell? ⟨w.heap.size + 1, 5, none⟩ = some (.int .i64 (b : Int))) (first | (with_reducible exact hSn _ GV) | (with_reducible exact hSn _ (GA _)) | (with_reducible exact hSn _ G1) | (with_reducible exact hSn _ (galloc G1 _)) | (with_reducible exact hSn _ G2) | (with_reducible exact hSn _ G3) | (with_reducible exact hSn _ (galloc G3 _)) | (with_reducible exact hSn _ G4) | go_keep) (first
          | (go_at_call 26; (first | (with_reducible refine (cA _ (gtrans B0 GV)).mono ?_) | (with_reducible refine (cA _ (gtrans B0 (GA _))).mono ?_)); rintro e u1 ⟨v1, rfl, P1, g1⟩; obtain ⟨t1, k1, rfl, T1, n1⟩ := pc_toks P1; have G1 : Below V.heap.size V u1 := (by first | exact gtrans GV g1 | exact gtrans (GA _) g1))
          | (go_at_call 29; (with_reducible refine (cS _).mono ?_); rintro e uS ⟨rfl, rfl⟩)
          | (go_at_call 27; (with_reducible refine (cK _ _ ?ks).mono ?_); (case ks => (first | exact ks1e rfl _ | exact ((ks1e rfl _).drew.keep g1))); rintro e u2 ⟨v2, rfl, P2, g2⟩; obtain ⟨t2, k2, rfl, T2, n2⟩ := pc_toks P2; have G12 : Below u1.heap.size u1 u2 := (by first | exact g2 | exact gtrans (galloc (Below.refl _ _) _) g2); have G2 := gtrans G1 G12)
          | (go_at_call 26; (with_reducible refine (cB _ (gtrans B0 G2)).mono ?_); rintro e u3 ⟨v3, rfl, P3, g3⟩; obtain ⟨t3, k3, rfl, T3, n3⟩ := pc_toks P3; have G3 := gtrans G2 g3)
          | (go_at_call 25; (with_reducible refine (cG _ _ (pcs3 (T1.keep (gtrans G12 g3)) (T2.keep g3) T3 n1 n2 n3)).mono ?_); rintro e u4 ⟨v4, rfl, ⟨t4, rfl, O4⟩, g4⟩; have G4 := gtrans (galloc G3 _) g4; obtain ⟨vo, vc, rfl⟩ := own_shape O4; have R4 := R0.keep G4; have r0 := R4.at0; have r1 := R4.at1; have f0 := R4.free 0; have f1 := R4.free 1))
        all_goals
          have zb : w.heap.size + 2 ≤ u3.heap.size := by have := G3.size; have := HZ.out; omega
          obtain ⟨e1, e2, e3⟩ := piece_endG (w := w) (q := q) (Nat.le_refl _) (by simp; omega) R4 O4 (gtrans B0 G4)
          have r5 := e3.at0
          have r6 := e3.at1
          clear cO cL fO cA cB cS cK cG hSn
          go_wp2
          refine bodyPost_ret (v := .agg #[.slice vo q.ts.length vc, .int .i64 q.d]) (by simp [results, Tryd.results16, go_sem, r5, r6]) rfl ⟨_, rfl, by rw [HQ.out]; exact e1, e2⟩
      · rw [h2] at cL
        have hq : glueP [oprP (nodP ns f) ns a 6, fixP [11 + (y.op - 14)], oprP (nodP ns f) ns b 7] = q := by have := HU.out; rw [h2, if_neg (by decide), if_neg (by decide), if_neg (by decide), if_neg (by decide), if_neg (by decide), if_pos rfl, ha1, hb1, Int.toNat_natCast, Int.toNat_natCast] at this; exact this
        have cA := cO a 6 ha2
        have cB := cO b 7 hb2
        obtain ⟨s1, s2, s3⟩ := fO a 6 ha2
        obtain ⟨s4, s5, s6⟩ := fO b 7 hb2
        generalize oprP (nodP ns f) ns a 6 = pa at *
        generalize oprP (nodP ns f) ns b 7 = pb at *
        have cS := sign_any y.op (by omega) (by omega)
        have cK : ∀ (u : World) (g : Nat), IsKs u (some ⟨g, 0, none⟩) [11 + (y.op - 14)] → Calls Tryd.prog 27 #[.slice (some ⟨g, 0, none⟩) 1 1] u fun e w' => ∃ v, e = .returned v ∧ PcA w' u.heap.size v (fixP [11 + (y.op - 14)]) ∧ Below u.heap.size u w' := fun u g A => fixed_any [11 + (y.op - 14)] (by simp) _ _ u A
        have cG : ∀ (u : World) (g : Nat), IsPcs u (some ⟨g, 0, none⟩) [pa, fixP [11 + (y.op - 14)], pb] → Calls Tryd.prog 25 #[.slice (some ⟨g, 0, none⟩) 3 3] u fun e w' => ∃ v, e = .returned v ∧ PcA w' u.heap.size v q ∧ Below u.heap.size u w' := fun u g A => by
          rw [← hq]
          exact glue_any [pa, fixP [11 + (y.op - 14)], pb] (by simp) (small3 _ _ _ (by rw [(fix_d [11 + (y.op - 14)]).2]; simp; omega)) _ _ u A
        clear hq HU ih A
        go_wp2_with (first
          | (go_at_call 24; (with_reducible refine (cL _).mono ?_); rintro e uL ⟨rfl, rfl⟩))
        go_region_held3 (fun X : World => X.cell? ⟨w.heap.size + 1, 0, none⟩ = some (.int .i64 y.op) ∧ X.cell? ⟨w.heap.size + 1, 4, none⟩ = some (.int .i64 (a : Int)) ∧ X.cell? ⟨w.heap.size + 1, 5, none⟩ = some (.int .i64 (b : Int))) (first | (with_reducible exact hSn _ GV) | (with_reducible exact hSn _ (GA _)) | (with_reducible exact hSn _ G1) | (with_reducible exact hSn _ (galloc G1 _)) | (with_reducible exact hSn _ G2) | (with_reducible exact hSn _ G3) | (with_reducible exact hSn _ (galloc G3 _)) | (with_reducible exact hSn _ G4) | go_keep) (first
          | (go_at_call 26; (first | (with_reducible refine (cA _ (gtrans B0 GV)).mono ?_) | (with_reducible refine (cA _ (gtrans B0 (GA _))).mono ?_)); rintro e u1 ⟨v1, rfl, P1, g1⟩; obtain ⟨t1, k1, rfl, T1, n1⟩ := pc_toks P1; have G1 : Below V.heap.size V u1 := (by first | exact gtrans GV g1 | exact gtrans (GA _) g1))
          | (go_at_call 29; (with_reducible refine (cS _).mono ?_); rintro e uS ⟨rfl, rfl⟩)
          | (go_at_call 27; (with_reducible refine (cK _ _ ?ks).mono ?_); (case ks => (first | exact ks1e rfl _ | exact ((ks1e rfl _).drew.keep g1))); rintro e u2 ⟨v2, rfl, P2, g2⟩; obtain ⟨t2, k2, rfl, T2, n2⟩ := pc_toks P2; have G12 : Below u1.heap.size u1 u2 := (by first | exact g2 | exact gtrans (galloc (Below.refl _ _) _) g2); have G2 := gtrans G1 G12)
          | (go_at_call 26; (with_reducible refine (cB _ (gtrans B0 G2)).mono ?_); rintro e u3 ⟨v3, rfl, P3, g3⟩; obtain ⟨t3, k3, rfl, T3, n3⟩ := pc_toks P3; have G3 := gtrans G2 g3)
          | (go_at_call 25; (with_reducible refine (cG _ _ (pcs3 (T1.keep (gtrans G12 g3)) (T2.keep g3) T3 n1 n2 n3)).mono ?_); rintro e u4 ⟨v4, rfl, ⟨t4, rfl, O4⟩, g4⟩; have G4 := gtrans (galloc G3 _) g4; obtain ⟨vo, vc, rfl⟩ := own_shape O4; have R4 := R0.keep G4; have r0 := R4.at0; have r1 := R4.at1; have f0 := R4.free 0; have f1 := R4.free 1))
        all_goals
          have zb : w.heap.size + 2 ≤ u3.heap.size := by have := G3.size; have := HZ.out; omega
          obtain ⟨e1, e2, e3⟩ := piece_endG (w := w) (q := q) (Nat.le_refl _) (by simp; omega) R4 O4 (gtrans B0 G4)
          have r5 := e3.at0
          have r6 := e3.at1
          clear cO cL fO cA cB cS cK cG hSn
          go_wp2
          refine bodyPost_ret (v := .agg #[.slice vo q.ts.length vc, .int .i64 q.d]) (by simp [results, Tryd.results16, go_sem, r5, r6]) rfl ⟨_, rfl, by rw [HQ.out]; exact e1, e2⟩

end Go.Proofs.YtpodpahipapbaaaDoor
