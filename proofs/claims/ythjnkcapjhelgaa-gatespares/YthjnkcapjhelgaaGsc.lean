/- marked of the gate's statements, walked. -/
import Derived.Test.YthjnkcapjhelgaaGsb
namespace Go.Proofs.Ythjnkcapjhelgaa
open Go.RowKit Go.BigFrame Go.Maps
set_option linter.unusedVariables false
set_option linter.unusedSimpArgs false

theorem infoKp : (Try.prog.info? 58).map (·.size) = some 2 := by kernel_rfl
abbrev zKp : Array Value := #[.slice none 0 0, .slice none 0 0]
theorem kp_one (a b : Option Addr) (n k c d : Nat) : (#[.slice a n c, .slice b k d] : Array Value).all (·.oneCell') = true := by simp [Value.oneCell']
theorem roomK {n : Nat} (h : n ≤ 4096) : ((n + 1) + (n + 1) / 4 + 192) * 88 ≤ 281474976710656 := by
  have h1 : (n + 1) / 4 ≤ 5000 := Nat.div_le_of_le_mul (by omega)
  have h2 : ((n + 1) + (n + 1) / 4 + 192) ≤ 20000 := by omega
  exact Nat.le_trans (Nat.mul_le_mul_right 88 h2) (by decide)
theorem flatFirst {w : World} {ao : Option Addr} {xs ys : List Value} (h : Flat w ao (xs ++ ys)) : Flat w ao xs := fun j u hj => h j u (by rw [List.getElem?_append_left (List.getElem?_eq_some_iff.1 hj).1]; exact hj)
/-- The cells of a row lie in a block of events that is there. -/
def InEv (w : World) (ao : Option Addr) (k : Nat) : Prop := k = 0 ∨ ∃ g cs, ao = some ⟨g, 0, none⟩ ∧ w.heap[g]? = some (.cells cs 47 (0, 0))
/-- What marked leaves. -/
structure MrP (base : Nat) (w : World) (a : Option Addr) (k c : Nat) (m : Int) (e : Ending) (w' : World) : Prop where
  ex : ∃ g c', e = .returned (.agg #[.slice a k c, .slice (some ⟨g, 0, none⟩) (k + 1) c']) ∧ Flat w' a (fl evC (mkL m k)) ∧ InEv w' a k ∧ w'.ownsRow base 47 11 (.slice (some ⟨g, 0, none⟩) (k + 1) c') (k + 1) (fl evC (mkL m (k + 1))) ∧ Frm (fun q => (Value.slice a k c).ownBlock = some q) w w'
/-- At the round i. -/
structure MrI (base : Nat) (w V : World) (a : Option Addr) (k c : Nat) (m : Int) (L : List Ev) (vi : Value) (wr : World) : Prop where
  ex : ∃ i : Nat, i ≤ k ∧ vi = .int .i64 (i : Int) ∧ wr.ownsRow base 47 11 (.slice a k c) k (fl evC (ovm m L i)) ∧ Frm (fun q => (Value.slice a k c).ownBlock = some q) V wr
set_option maxRecDepth 100000 in
set_option maxHeartbeats 4000000 in
theorem markedG_any (base : Nat) (a : Option Addr) (k c : Nat) (m : Int) (L : List Ev) (w : World) (O : w.ownsRow base 47 11 (.slice a k c) k (fl evC L)) (hb : base ≤ w.heap.size) (hk : k ≤ 4096) :
    Calls Try.prog 19 #[.slice a k c, .int .i64 m] w fun e w' => MrP base w a k c m e w' := by
  have hL : L.length = k := by have := O.1; rw [fl_len ev_size] at this; omega
  have B0 := galloc (Below.refl w.heap.size w) (.cells zKp 58)
  have b0 := Bk.new w zKp 58
  have hlo : ∀ q, (Value.slice a k c).ownBlock = some q → q < w.heap.size := fun q e => (World.ownsRow.lt O q e).2
  go_enter Try.func19, Try.ntmps19
  go_upto_region 2 with fail
  generalize w.alloc _ = V at *
  have OV := own_keep O B0
  have hV := B0.size
  go_loopw [5] (fun vi wr => MrI base w V a k c m L vi wr) (fun vi _ => k - (intOf vi).toNat)
  case atStart => exact ⟨0, Nat.zero_le _, rfl, OV, Frm.refl _ _⟩
  case round =>
    obtain ⟨i, hi, rfl, OR, FR⟩ := hrel
    by_cases hlt : i < k
    · obtain ⟨g, cap, e, hbg, _⟩ := World.ownsRow.form OR (by omega)
      cases e
      have q1 : (i : Int) < (k : Int) := by omega
      have th := own_there OR i hlt
      have sx := ev_one1 (mkE m (i : Int))
      have O2 := own_putN OR hlt (mkE m (i : Int))
      have hcv := cv_run (show i ≤ 9000000000000000000 by omega) wr
      have hbd := buildE2 m (i : Int) wr
      have F2 : Frm (fun q => (Value.slice (some ⟨g, 0, none⟩) k c).ownBlock = some q) V (wr.setCells g (i * 11) (evC (mkE m (i : Int))).toList) := by
        have e := setCells_os g (evC (mkE m (i : Int))).toList (i * 11) wr
        exact ⟨e.1.trans FR.os, e.2.1.trans FR.tape, e.2.2.trans FR.output, by rw [setCells_size]; exact FR.size, fun q h1 h2 => (setCells_blk g _ _ wr q (fun e => h2 (by rw [e]; rfl))).trans (FR.blk q h1 h2)⟩
      generalize hX : wr.setCells g (i * 11) (evC (mkE m (i : Int))).toList = X at *
      go_upto_region 4 with fail
      refine wp_region_lit ?_
      refine wpL_mv rfl (.tmp 0) rfl rfl ?_
      simp only [Act.put, List.setIfInBounds_toArray, List.set_cons_succ, List.set_cons_zero]
      refine wpL_mv rfl (.tmp 5) rfl rfl ?_
      simp only [Act.put, List.setIfInBounds_toArray, List.set_cons_succ, List.set_cons_zero]
      refine wpL_mv rfl (.tmp 1) rfl rfl ?_
      simp only [Act.put, List.setIfInBounds_toArray, List.set_cons_succ, List.set_cons_zero]
      refine wpL_mv rfl (.tmp 5) rfl rfl ?_
      simp only [Act.put, List.setIfInBounds_toArray, List.set_cons_succ, List.set_cons_zero]
      refine wpL_cv rfl (.tmp 15) rfl rfl hcv ?_
      simp only [Act.put, List.setIfInBounds_toArray, List.set_cons_succ, List.set_cons_zero]
      refine wpL_b2 rfl (.tmp 14) (.tmp 16) rfl rfl rfl hbd ?_
      simp only [Act.put, List.setIfInBounds_toArray, List.set_cons_succ, List.set_cons_zero]
      refine wpL_ix rfl (.tmp 12) (.tmp 13) rfl rfl rfl (ix_run hlt wr) ?_
      simp only [Act.put, List.setIfInBounds_toArray, List.set_cons_succ, List.set_cons_zero]
      refine wpList_store_mid rfl 47 (.tmp 18) (.tmp 17) rfl g (i * 11) (evC (mkE m (i : Int))) rfl rfl th infoEv sx ?_
      rw [hX]
      go_frame
      have HP : Hid (MrI base w V (some ⟨g, 0, none⟩) k c m L (.int .i64 ((i : Int) + 1)) X) := ⟨i + 1, hlt, rfl, O2, F2⟩
      clear O2 F2 OR FR th hX hcv hbd
      go_wp2
      go_roundw
      case rel => exact HP.out
      case measure => simp [intOf]; omega
    · obtain rfl : k = i := by omega
      have hki : ¬ (k : Int) < (k : Int) := by omega
      have eL : ovm m L k = mkL m k := by rw [← hL]; exact ovm_end m L
      rw [eL] at OR
      have hbr : base ≤ wr.heap.size := Nat.le_trans hb (Nat.le_trans hV FR.size)
      have G1 := galloc (Below.refl wr.heap.size wr) (.cells (evC (mkE m (k : Int))) 47)
      have hnews := World.news_of_block (Bk.new wr (evC (mkE m (k : Int))) 47)
      have hbs := evBuildE (mkE m (k : Int)) wr
      have hcv := cv_run (show k ≤ 9000000000000000000 by omega) wr
      have hbd := buildE2 m (k : Int) wr
      generalize hW : wr.alloc (.cells (evC (mkE m (k : Int))) 47) = W at *
      have OW := own_keep OR G1
      clear hlt
      have br := FR.bk b0 (fun e => by have := hlo _ e; omega)
      have hwr := br.lt
      have bW := br.keep G1
      have hWs := G1.size
      have hbW : base ≤ W.heap.size := Nat.le_trans hbr hWs
      have hr1 : Hid (k + 1 ≤ 9223372036854775807) := by unfold Hid; omega
      have hr2 : Hid (((k + 1) + (k + 1) / 4 + 192) * 88 ≤ 281474976710656) := roomK hk
      have hFr : Frm (fun q => (Value.slice a k c).ownBlock = some q) w W := (Frm.first B0 FR).below G1
      go_wp2_with (first
        | (refine wpL_cv rfl (.tmp 23) rfl rfl hcv ?_; simp only [Act.put, List.setIfInBounds_toArray, List.set_cons_succ, List.set_cons_zero]; refine wpL_b2 rfl (.tmp 21) (.tmp 24) rfl rfl rfl hbd ?_; simp only [Act.put, List.setIfInBounds_toArray, List.set_cons_succ, List.set_cons_zero]; refine wpList_build1 rfl (.tmp 25) rfl rfl hbs ?_; simp only [Act.put, List.setIfInBounds_toArray, List.set_cons_succ, List.set_cons_zero]; refine wpL_two rfl (.tmp 20) (.tmp 26) rfl Try.underlying39 nfEv rfl (by decide) (.slice a k c) base k _ rfl OW hbW ⟨wr.heap.size, 0, none⟩ 1 (evC (mkE m (k : Int))).toList rfl rfl hnews (ev_ones1 _) hr1.out hr2.out ?_; intro g8 c8 w8 O8 Q8 L8; have b8 := bk_far bW OW (by decide) Q8; have th8 := b8.there; have sx8 := kp_one a (some ⟨g8, 0, none⟩) k (k + 1) c c8; have b9 := b8.setCells (cs' := #[.slice a k c, .slice (some ⟨g8, 0, none⟩) (k + 1) c8]) rfl; have hsb := setCells_blk w.heap.size (#[.slice a k c, .slice (some ⟨g8, 0, none⟩) (k + 1) c8] : Array Value).toList 0 w8; have hss := setCells_size w.heap.size (#[.slice a k c, .slice (some ⟨g8, 0, none⟩) (k + 1) c8] : Array Value).toList 0 w8; have hso := setCells_os w.heap.size (#[.slice a k c, .slice (some ⟨g8, 0, none⟩) (k + 1) c8] : Array Value).toList 0 w8; generalize hX8 : w8.setCells w.heap.size 0 (#[.slice a k c, .slice (some ⟨g8, 0, none⟩) (k + 1) c8] : Array Value).toList = X8 at *; simp only [Act.put, List.setIfInBounds_toArray, List.set_cons_succ, List.set_cons_zero])
        | (refine wpList_store_mid rfl 58 _ _ rfl w.heap.size 0 #[.slice a k c, .slice (some ⟨g8, 0, none⟩) (k + 1) c8] rfl rfl th8 infoKp sx8 ?_; rw [hX8]))
      refine bodyPost_ret (results_cell_row rfl _ _ w.heap.size 58 #[.slice a k c, .slice (some ⟨g8, 0, none⟩) (k + 1) c8] (0, 0) _ rfl b9 Try.underlying58 rfl infoKp) rfl ?_
      have hgne : g8 ≠ w.heap.size := by
        rcases L8 with h | ⟨h, _⟩
        · have := hlo g8 h; omega
        · omega
      have OX := own_else O8 hsb (sl_ne hgne)
      have hmk : fl evC (mkL m k) ++ (evC (mkE m (k : Int))).toList = fl evC (mkL m (k + 1)) := by rw [mkL_succ, fl_app]; simp [fl]
      have FX : Frm (fun q => (Value.slice a k c).ownBlock = some q) w X8 := ⟨hso.1.trans (Q8.os.trans hFr.os), hso.2.1.trans (Q8.tape.trans hFr.tape), hso.2.2.trans (Q8.output.trans hFr.output), by rw [hss]; exact Nat.le_trans hFr.size Q8.size, fun q h1 h2 => (hsb q (by omega)).trans ((Q8.block q (Nat.lt_of_lt_of_le h1 hFr.size) (fun e => h2 e.symm)).trans (hFr.blk q h1 h2))⟩
      have two : Flat X8 a (fl evC (mkL m k)) ∧ InEv X8 a k := by
        rcases L8 with h | ⟨h, B8⟩
        · rcases OW.2 with ⟨e, e0⟩ | ⟨g1, c1, cur1, e, _⟩
          · cases e; simp [Value.ownBlock] at h
          · cases e
            have : g1 = g8 := by simpa [Value.ownBlock] using h
            subst this
            obtain ⟨cs, hcs⟩ := own_blkE OX
            exact ⟨flatFirst (own_flat OX), .inr ⟨_, cs, rfl, hcs⟩⟩
        · have OY : X8.ownsRow base 47 11 (.slice a k c) k (fl evC (mkL m k)) := own_else (own_keep OW B8) hsb (fun q e => by have := hlo q e; omega)
          refine ⟨own_flat OY, ?_⟩
          rcases OY.2 with ⟨e, e0⟩ | ⟨g1, c1, cur1, e, _, hh, _⟩
          · exact .inl e0
          · cases e; exact .inr ⟨_, _, rfl, hh⟩
      rw [hmk] at OX
      exact ⟨g8, c8, rfl, two.1, two.2, OX, FX⟩

end Go.Proofs.Ythjnkcapjhelgaa
