/- What event's ParseSchema comes to. -/
import Derived.Test.YtkpnnofonocilaaDoorPf2
namespace Go.Proofs.YtkpnnofonocilaaDoor
open Go.RowKit Go.BigFrame
set_option linter.unusedVariables false
set_option linter.unusedSimpArgs false

/-- What a list of pieces is read as: the types, the error, its place. -/
def rdO (l : List Pc) : List Ty × Int × Int := if (rdS 17 [] l).2.2 ≠ 0 then ([], (rdS 17 [] l).2.2, (hd (rdS 17 [] l).1).a) else ((rdS 17 [] l).2.1, 0, 0)
/-- What ParseSchema answers. -/
def scO (s : ByteArray) : List Ty × Int × Int := if 4096 < s.size then ([], 20, 4096) else rdO (pL s s.size 0 none false)
theorem OwnP.mono {base base' : Nat} {w : World} {v : Value} {n : Nat} {L : List Ty} (h : OwnP base w v n L) (hb : base' ≤ base) : OwnP base' w v n L := by
  obtain ⟨h0, cells, h1, h2, h3⟩ := h
  refine ⟨h0, cells, own_mono h1 hb, fun j hj => ?_, h3⟩
  obtain ⟨e1, aj, cj, e2, e3⟩ := h2 j hj
  exact ⟨e1, aj, cj, e2, own_mono e3 hb⟩
theorem results_row_tmp2 {P : Program} {fn : Func} {p q r : Tmp} {ty : TypeId} (h : fn.results = #[.cell p ty, .tmp q, .tmp r]) (tmps : Array Value) (w : World) (g : Nat) (t : TypeId) (cs : Array Value) (fr : Nat × Nat) (d : TypeDesc)
    (hp : tmps.getD p undef = .pointer (some ⟨g, 0, none⟩)) (hg : w.heap[g]? = some (.cells cs t fr))
    (hu : P.underlying ty = some d) (hd : (match d with | .struct _ | .array _ _ => true | _ => false) = true) (hi : (P.info? ty).map (·.size) = some cs.size) :
    (results fn tmps).run P w = .ok (.tuple #[.agg cs, tmps.getD q undef, tmps.getD r undef]) w := by
  have hp' : tmps[p]?.getD undef = .pointer (some ⟨g, 0, none⟩) := by simpa using hp
  simp [results, h, hp', asAddr, run_loadVar_row w g t ty cs fr d hg hu hd hi]
theorem infoSch : (Tryd.prog.info? 24).map (·.size) = some 1 := by kernel_rfl

/-- The reader made anew over these pieces. -/
theorem reader_any (l : List Pc) (hE : En l) (g cap : Nat) (u : World) (hp : IsPcs u g 0 l) (hc : l.length ≤ cap) (K : KwAt u) (b : Nat) (hb : b = u.heap.size) :
    Calls Tryd.prog 24 #[.pointer (some ⟨b, 0, none⟩)] (u.alloc (.cells #[.slice (some ⟨g, 0, none⟩) l.length cap, .slice none 0 0] 59)) fun e w' => ∃ v' o' cap', e = .returned (.int .i64 (rdS 17 [] l).2.2) ∧ RdAt w' b g o' (rdS 17 [] l).1 cap' v' ∧ En (rdS 17 [] l).1 ∧ OwnP (u.heap.size + 1) w' v' (rdS 17 [] l).2.1.length (rdS 17 [] l).2.1 ∧ Below u.heap.size u w' := by
  subst hb
  have B2 := galloc (Below.refl u.heap.size u) (.cells #[.slice (some ⟨g, 0, none⟩) l.length cap, .slice none 0 0] 59)
  have T2 := Two.new u (.slice (some ⟨g, 0, none⟩) l.length cap) (.slice none 0 0) 59
  have hgl := hp.lt hE.ne
  have hV : (u.alloc (.cells #[.slice (some ⟨g, 0, none⟩) l.length cap, .slice none 0 0] 59)).heap.size = u.heap.size + 1 := by simp
  generalize u.alloc (.cells #[.slice (some ⟨g, 0, none⟩) l.length cap, .slice none 0 0] 59) = V at *
  have R : RdAt V u.heap.size g 0 l cap (.slice none 0 0) := ⟨T2, hp.keep (fun i => B2.cell (p := ⟨g, i, none⟩) hgl), hc, by omega⟩
  refine (schema_any u.heap.size g 0 l hE cap _ (u.heap.size + 1) V R (OwnP.nil _ _) (by omega) (by omega) (by omega) (K.keep B2) K.1).mono ?_
  rintro e w' ⟨v', o', cap', h1, h2, h3, h4, h5, h6⟩
  exact ⟨v', o', cap', h1, h2, h3, h4, B2.trans h5⟩

set_option maxRecDepth 100000 in
set_option maxHeartbeats 8000000 in
theorem parseSchema_any (s : ByteArray) (hs : s.size ≤ 9223372036854775807) (w : World) (K : KwAt w) :
    Calls Tryd.prog 9 #[.string s] w fun e w' => ∃ v, e = .returned (.tuple #[.agg #[v], .int .i64 (scO s).2.1, .int .i64 (scO s).2.2]) ∧ OwnP w.heap.size w' v (scO s).1.length (scO s).1 ∧ Below w.heap.size w w' := by
  have hz : scO s = if 4096 < s.size then ([], 20, 4096) else rdO (pL s s.size 0 none false) := rfl
  by_cases hbig : 4096 < s.size
  · rw [if_pos hbig] at hz
    have HZ : Hid (scO s = ([], 20, 4096)) := hz
    have hb : (4096 : Int) < (s.size : Int) := by omega
    clear hz
    go_enter Tryd.func9, Tryd.ntmps9
    go_wp2
    refine bodyPost_ret (results_row_tmp2 rfl _ _ w.heap.size 24 #[.slice none 0 0] (0, 0) _ rfl (heap_alloc_new _ _) Tryd.underlying24 rfl infoSch) rfl ⟨.slice none 0 0, by rw [HZ.out]; rfl, by rw [HZ.out]; exact OwnP.nil _ _, galloc (Below.refl _ _) _⟩
  · rw [if_neg hbig] at hz
    have hb : ¬ (4096 : Int) < (s.size : Int) := by omega
    have cP := fun (u : World) => piecesOf_any s (by omega) u
    have hEn := pL_en s s.size 0 none false
    have hwd := pL_words s s.size 0 none false (Nat.zero_le _) (fun b e => by cases e)
    generalize pL s s.size 0 none false = l at *
    have hz2 : scO s = if (rdS 17 [] l).2.2 ≠ 0 then ([], (rdS 17 [] l).2.2, (hd (rdS 17 [] l).1).a) else ((rdS 17 [] l).2.1, 0, 0) := hz
    have cS := fun g cap u hp hc K b hb => reader_any l hEn g cap u hp hc K b hb
    clear hz
    generalize rdS 17 [] l = q at *
    obtain ⟨ql, qL, qc⟩ := q
    dsimp only at hz2 cS
    have W0 := galloc (Below.refl w.heap.size w) (.cells #[.slice none 0 0] 24)
    have Z0 := One.new w (.slice none 0 0) 24
    by_cases hq : qc = 0
    · subst hq
      rw [if_neg (by decide)] at hz2
      have HZ : Hid (scO s = (qL, 0, 0)) := hz2
      clear hz2
      go_enter Tryd.func9, Tryd.ntmps9
      go_wp2_with (first
        | (go_at_call 23; (with_reducible refine (cP _).mono ?_); rintro e u1 ⟨v1, rfl, O1, g1⟩; obtain ⟨g, cap, rfl, hcap, hpcs, hg⟩ := pcs_of_own hEn.ne hwd O1; have G1 := gtrans W0 g1; have Z1 := Z0.keep g1; have cS1 := cS g cap u1 hpcs hcap (K.keep G1) _ rfl)
        | (go_at_call 24; (with_reducible refine cS1.mono ?_); rintro e u2 ⟨v2, o2, cap2, rfl, R2, E2, T2, g2⟩; obtain ⟨ao2, c2, rfl, _⟩ := T2.own.types; have t2 := R2.two.at1; have Z2 := Z1.keep g2; have f2 := Z2.free; have p2 := Z2.at0))
      have Z4 := Z2.set (.slice ao2 qL.length c2)
      refine bodyPost_ret (results_row_tmp2 rfl _ _ w.heap.size 24 #[.slice ao2 qL.length c2] (0, 0) _ rfl Z4 Tryd.underlying24 rfl infoSch) rfl ⟨.slice ao2 qL.length c2, by rw [HZ.out]; rfl, ?_, (gtrans G1 g2).setCell (Nat.le_refl _) _⟩
      rw [HZ.out]
      have z1 := G1.size
      exact (T2.blocks (fun g' cur e hg' _ => Below.heap_setCell _ _ _ g' (by show g' ≠ w.heap.size; omega))).mono (by omega)
    · rw [if_pos hq] at hz2
      have HZ : Hid (scO s = ([], qc, (hd ql).a)) := hz2
      have q0 : (qc == 0) = false := by simpa using hq
      clear hz2
      have cH : ∀ (b g o' cap' : Nat) (v' : Value) (w2 : World), RdAt w2 b g o' ql cap' v' → En ql → Calls Tryd.prog 25 #[.pointer (some ⟨b, 0, none⟩)] w2 fun e w' => e = .returned (.agg #[.int .i64 (hd ql).k, .string (hd ql).w, .int .i32 (hd ql).m, .int .i64 (hd ql).a]) ∧ Below w2.heap.size w2 w' := fun b g o' cap' v' w2 R E => here_is b g o' ql E.ne cap' v' w2 R
      have pf3 := fun u => pc_f3 (hd ql).k (hd ql).w (hd ql).m (hd ql).a u
      generalize hd ql = p at *
      go_enter Tryd.func9, Tryd.ntmps9
      go_wp2_with (first
        | (go_at_call 23; (with_reducible refine (cP _).mono ?_); rintro e u1 ⟨v1, rfl, O1, g1⟩; obtain ⟨g, cap, rfl, hcap, hpcs, hg⟩ := pcs_of_own hEn.ne hwd O1; have G1 := gtrans W0 g1; have Z1 := Z0.keep g1; have cS1 := cS g cap u1 hpcs hcap (K.keep G1) _ rfl)
        | (go_at_call 24; (with_reducible refine cS1.mono ?_); rintro e u2 ⟨v2, o2, cap2, rfl, R2, E2, T2, g2⟩; have Z2 := Z1.keep g2; have cH2 := cH _ _ _ _ _ u2 R2 E2)
        | (go_at_call 25; (with_reducible refine cH2.mono ?_); rintro e u3 ⟨rfl, g3⟩; have Z3 := Z2.keep g3; have f3 := Z3.free; have p3 := Z3.at0))
      have Z4 := Z3.set (.slice none 0 0)
      refine bodyPost_ret (results_row_tmp2 rfl _ _ w.heap.size 24 #[.slice none 0 0] (0, 0) _ rfl Z4 Tryd.underlying24 rfl infoSch) rfl ⟨.slice none 0 0, by rw [HZ.out]; rfl, by rw [HZ.out]; exact OwnP.nil _ _, (gtrans (gtrans G1 g2) g3).setCell (Nat.le_refl _) _⟩

end Go.Proofs.YtkpnnofonocilaaDoor
