/- What the reader's method schema comes to. -/
import Derived.Test.YtkpnnofonocilaaDoorRd3
namespace Go.Proofs.YtkpnnofonocilaaDoor
open Go.RowKit Go.BigFrame
set_option linter.unusedVariables false
set_option linter.unusedSimpArgs false

/-- Definitions up to the end: what is left, the types, the error. -/
def rdS : Nat → List Ty → List Pc → List Pc × List Ty × Int
  | 0, L, l => (l, L, 23)
  | n + 1, L, l => if (hd l).k = 2 then (l, L, if L.length = 0 then 23 else 0) else if (rdD L l).2.2 ≠ 0 then rdD L l else rdS n (rdD L l).2.1 (rdD L l).1
theorem rdD_len {L : List Ty} {l : List Pc} (h : (rdD L l).2.2 = 0) : (rdD L l).2.1.length = L.length + 1 ∧ L.length ≠ 16 := by
  unfold rdD at h ⊢
  split at h
  · cases h
  · split at h
    · cases h
    · rename_i h1 h2
      rw [if_neg h1, if_neg h2]
      split at h
      · cases h
      · rename_i h3
        rw [if_neg h3]
        split at h
        · rename_i h4; exact absurd h h4
        · rename_i h4
          rw [if_neg h4]
          split at h
          · rename_i h5; exact absurd h h5
          · rename_i h5
            rw [if_neg h5]
            exact ⟨by simp, h2⟩
theorem KwAt.belowN {N : Nat} {w u : World} (h : KwAt w) (G : Below N w u) (hN : 0 < N) (hs : w.heap.size ≤ u.heap.size) : KwAt u :=
  ⟨Nat.lt_of_lt_of_le h.1 hs, fun j hj => (G.cell (p := ⟨_, j, none⟩) hN).trans (h.2 j hj)⟩

set_option maxRecDepth 100000 in
set_option maxHeartbeats 8000000 in
theorem schema_any (b g o : Nat) (l : List Pc) (hE : En l) (cap : Nat) (v : Value) (B : Nat) (w : World) (R : RdAt w b g o l cap v) (T : OwnP B w v 0 []) (hBw : B ≤ w.heap.size) (hbB : b < B) (hgB : g < B) (K : KwAt w) (hKb : 0 < b) :
    Calls Tryd.prog 24 #[.pointer (some ⟨b, 0, none⟩)] w fun e w' => ∃ v' o' cap', e = .returned (.int .i64 (rdS 17 [] l).2.2) ∧ RdAt w' b g o' (rdS 17 [] l).1 cap' v' ∧ En (rdS 17 [] l).1 ∧ OwnP B w' v' (rdS 17 [] l).2.1.length (rdS 17 [] l).2.1 ∧ Below b w w' ∧ w.heap.size ≤ w'.heap.size := by
  obtain ⟨z, hz⟩ : ∃ z, rdS 17 [] l = z := ⟨_, rfl⟩
  rw [hz]
  have HZ0 : Hid (z = rdS 17 [] l) := hz.symm
  clear hz
  have hbw : b < w.heap.size := R.two.lt
  go_enter Tryd.func24, Tryd.ntmps24
  go_wp2
  go_loopw [3] (fun u3 wr => ∃ (f : Nat) (L : List Ty) (lc : List Pc) (v' : Value) (o' cap' : Nat), RdAt wr b g o' lc cap' v' ∧ OwnP B wr v' L.length L ∧ En lc ∧ z = rdS f L lc ∧ L.length + f = 17 ∧ 0 < f ∧ Below b w wr ∧ w.heap.size ≤ wr.heap.size) (fun _ wr => 17 - lenA ((wr.cell? ⟨b, 1, none⟩).getD (.slice none 0 0)))
  case atStart => exact ⟨17, [], l, v, o, cap, R, T, hE, HZ0.out, rfl, by omega, Below.refl _ _, Nat.le_refl _⟩
  case round =>
    obtain ⟨f, L, lc, v', o', cap', Rc, Tc, hEc, hzc, hLf, hf0, G, hsz⟩ := hrel
    obtain ⟨f, rfl⟩ : ∃ f', f = f' + 1 := ⟨f - 1, by omega⟩
    have hlc := hEc.ne
    have hzc' : z = if (hd lc).k = 2 then (lc, L, if L.length = 0 then 23 else 0) else if (rdD L lc).2.2 ≠ 0 then rdD L lc else rdS f (rdD L lc).2.1 (rdD L lc).1 := hzc
    clear hzc HZ0
    have cH : Calls Tryd.prog 25 #[.pointer (some ⟨b, 0, none⟩)] wr fun e w' => e = .returned (.agg #[.int .i64 (hd lc).k, .string (hd lc).w, .int .i32 (hd lc).m, .int .i64 (hd lc).a]) ∧ Below wr.heap.size wr w' := here_is b g o' lc hlc cap' v' wr Rc
    have pf0 := fun u => pc_f0 (hd lc).k (hd lc).w (hd lc).m (hd lc).a u
    obtain ⟨ao, tc, rfl, _⟩ := Tc.own.types
    have Kr := K.belowN G hKb hsz
    by_cases hk : (hd lc).k = 2
    · rw [if_pos hk] at hzc'
      have hk2 : ((hd lc).k == 2) = true := by simpa using hk
      have HZ : Hid (z = (lc, L, if L.length = 0 then 23 else 0)) := hzc'
      clear hzc' hk
      generalize hd lc = p at *
      obtain ⟨m, hm⟩ : ∃ m, L.length = m := ⟨_, rfl⟩
      rw [hm] at HZ Rc
      by_cases h0 : m = 0
      · rw [if_pos h0] at HZ
        subst h0
        go_wp2_with (go_at_call 25; (with_reducible refine cH.mono ?_); rintro e u1 ⟨rfl, g1⟩; have R1 := Rc.keep hlc g1; have t1 := R1.two.at1)
        go_ret
        refine ⟨.slice ao 0 tc, o', cap', by rw [HZ.out]; rfl, ?_, ?_, ?_, G.trans (g1.mono (by omega)), Nat.le_trans hsz g1.size⟩
        · rw [HZ.out]; exact R1
        · rw [HZ.out]; exact hEc
        · rw [HZ.out]; show OwnP B _ _ L.length L; rw [hm]; rw [hm] at Tc; exact Tc.keep g1
      · rw [if_neg h0] at HZ
        have m0 : ((m : Int) == 0) = false := by rw [beq_eq_false_iff_ne]; omega
        go_wp2_with (go_at_call 25; (with_reducible refine cH.mono ?_); rintro e u1 ⟨rfl, g1⟩; have R1 := Rc.keep hlc g1; have t1 := R1.two.at1)
        go_ret
        refine ⟨.slice ao m tc, o', cap', by rw [HZ.out]; rfl, ?_, ?_, ?_, G.trans (g1.mono (by omega)), Nat.le_trans hsz g1.size⟩
        · rw [HZ.out]; exact R1
        · rw [HZ.out]; exact hEc
        · rw [HZ.out]; show OwnP B _ _ L.length L; rw [hm]; rw [hm] at Tc; exact Tc.keep g1
    · rw [if_neg hk] at hzc'
      have hk2 : ((hd lc).k == 2) = false := by simpa using hk
      have cD := fun (u : World) (g1 : Below wr.heap.size wr u) => definition_any b g o' lc hEc cap' _ B L.length L u (Rc.keep hlc g1) (Tc.keep g1) (by have := g1.size; omega) hbB hgB (by omega) (Kr.keep g1) (by omega)
      have hEd : En (rdD L lc).1 := rdD_en hEc
      have hlen := rdD_len (L := L) (l := lc)
      have c0 := Rc.two.at1
      generalize rdD L lc = q at *
      obtain ⟨ql, qL, qc⟩ := q
      dsimp only at hzc' cD hEd hlen
      generalize hd lc = p at *
      by_cases hq : qc = 0
      · subst hq
        rw [if_neg (by decide)] at hzc'
        have hlen' := hlen rfl
        have HZ : Hid (z = rdS f qL ql) := hzc'
        clear hzc' hlen
        go_wp2_with (first
          | (go_at_call 25; (with_reducible refine cH.mono ?_); rintro e u1 ⟨rfl, g1⟩)
          | (go_at_call 44; (with_reducible refine (cD u1 g1).mono ?_); rintro e u2 ⟨v2, o2, cap2, rfl, R2, T2, g2, z2⟩))
        go_roundw
        case rel => exact ⟨f, qL, ql, v2, o2, cap2, R2, T2, hEd, HZ.out, by omega, by omega, (G.trans (g1.mono (by omega))).trans g2, by have := g1.size; omega⟩
        case measure =>
          obtain ⟨a3, t3, hv3, _⟩ := T2.own.types
          have e2 := R2.two.at1
          rw [hv3] at e2
          show 17 - lenA ((u2.cell? ⟨b, 1, none⟩).getD (.slice none 0 0)) < 17 - lenA ((wr.cell? ⟨b, 1, none⟩).getD (.slice none 0 0))
          rw [e2, c0]
          show 17 - qL.length < 17 - L.length
          omega
      · rw [if_pos hq] at hzc'
        have q0 : (qc == 0) = false := by simpa using hq
        have HZ : Hid (z = (ql, qL, qc)) := hzc'
        clear hzc' hlen
        go_wp2_with (first
          | (go_at_call 25; (with_reducible refine cH.mono ?_); rintro e u1 ⟨rfl, g1⟩)
          | (go_at_call 44; (with_reducible refine (cD u1 g1).mono ?_); rintro e u2 ⟨v2, o2, cap2, rfl, R2, T2, g2, z2⟩))
        go_ret
        refine ⟨v2, o2, cap2, by rw [HZ.out]; rfl, ?_, ?_, ?_, (G.trans (g1.mono (by omega))).trans g2, by have := g1.size; omega⟩
        · rw [HZ.out]; exact R2
        · rw [HZ.out]; exact hEd
        · rw [HZ.out]; exact T2

end Go.Proofs.YtkpnnofonocilaaDoor
