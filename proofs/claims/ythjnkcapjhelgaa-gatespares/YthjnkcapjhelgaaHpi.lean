/- Pop; a pile as what it holds, in its order. -/
import Derived.Test.YthjnkcapjhelgaaHph
namespace Go.Proofs.Ythjnkcapjhelgaa
open Go.RowKit Go.BigFrame
set_option linter.unusedVariables false
set_option linter.unusedSimpArgs false

theorem Gb.bk {p : Nat} {v : Value} {w u : World} (G : Gb p v w u) {b : Nat} {cs : Array Value} {t : TypeId} (h : Bk w b cs t) (h1 : b ≠ p) (h2 : v.ownBlock ≠ some b) : Bk u b cs t := (G.blk b h.lt h1 h2).trans h
theorem own_ne {g b : Nat} (n c : Nat) (h : g < b) : (Value.slice (some ⟨g, 0, none⟩) n c).ownBlock ≠ some b := fun e => by
  have e' : g = b := by simpa [Value.ownBlock] using e
  omega
set_option maxRecDepth 100000 in
set_option maxHeartbeats 2000000 in
theorem evPop_none (p : Nat) (ao : Option Addr) (cap : Nat) (y : Value) (w : World) (hb : Bk w p #[.slice ao 0 cap, y] 97) : Calls Try.prog 52 #[.pointer (some ⟨p, 0, none⟩)] w fun e w' => e = .returned (evTopV zrEv false) ∧ Below w.heap.size w w' := by
  have B := galloc (Below.refl w.heap.size w) (.cells #[.int .i64 0, .int .u64 0, .int .i64 0, .int .i64 0, .int .i64 0, .int .i64 0, .int .i64 0, .int .i64 0, .int .i64 0, .int .i64 0, .int .i64 0] 47)
  have b1 := Bk.new w #[.int .i64 0, .int .u64 0, .int .i64 0, .int .i64 0, .int .i64 0, .int .i64 0, .int .i64 0, .int .i64 0, .int .i64 0, .int .i64 0, .int .i64 0] 47
  have s1 : (evC zrEv).all (·.oneCell') = true := by simp [evC, zrEv, Value.oneCell']
  go_enter Try.func52, Try.ntmps52
  go_upto_region 1 with fail
  generalize w.alloc _ = V at *
  have c1 := evPeek_none p ao cap y V (hb.keep B)
  unfold evTopV at c1
  go_wp2_with (first
    | (go_at_call 53; (with_reducible refine c1.mono ?_); rintro e u ⟨rfl, g1⟩; have bz := Bk.new u #[.int .i64 0, .int .u64 0, .int .i64 0, .int .i64 0, .int .i64 0, .int .i64 0, .int .i64 0, .int .i64 0, .int .i64 0, .int .i64 0, .int .i64 0] 47; have th := bz.there; have b4 := bz.setCells (cs' := evC zrEv) rfl; have G4 := gsetCells (galloc (Below.refl u.heap.size u) (.cells #[.int .i64 0, .int .u64 0, .int .i64 0, .int .i64 0, .int .i64 0, .int .i64 0, .int .i64 0, .int .i64 0, .int .i64 0, .int .i64 0, .int .i64 0] 47)) (Nat.le_refl _) (evC zrEv).toList 0; generalize hX : (u.alloc (.cells #[.int .i64 0, .int .u64 0, .int .i64 0, .int .i64 0, .int .i64 0, .int .i64 0, .int .i64 0, .int .i64 0, .int .i64 0, .int .i64 0, .int .i64 0] 47)).setCells u.heap.size 0 (evC zrEv).toList = X at *; have r4 := b4.range; have b5 := b1.keep (gtrans g1 G4); have th5 := b5.there; have b6 := b5.setCells (cs' := evC zrEv) rfl; have G6 := gsetCells (gtrans B (gtrans g1 G4)) (Nat.le_refl _) (evC zrEv).toList 0; generalize hX2 : X.setCells w.heap.size 0 (evC zrEv).toList = X2 at *)
    | (refine wpList_store_mid rfl 47 _ _ rfl u.heap.size 0 (evC zrEv) rfl rfl th infoEv s1 ?_; rw [hX])
    | (refine wpList_load_mid rfl 47 _ rfl u.heap.size 0 rfl (evC zrEv).toList _ r4 Try.underlying47 rfl infoEv ?_)
    | (refine wpList_store_mid rfl 47 _ _ rfl w.heap.size 0 (evC zrEv) rfl rfl th5 infoEv s1 ?_; rw [hX2]))
  exact bodyPost_ret (results_row_tmp rfl _ _ w.heap.size 47 (evC zrEv) (0, 0) _ rfl b6 Try.underlying47 rfl infoEv) rfl ⟨rfl, G6⟩
set_option maxRecDepth 100000 in
set_option maxHeartbeats 2000000 in
theorem evPop_some (p base g cap t : Nat) (h : List (Ev × Nat)) (z : Ev × Nat) (w : World) (P : Pil 97 101 12 evC w p base (.slice (some ⟨g, 0, none⟩) h.length cap) h t) (h0 : 0 < h.length) (hl : h.length ≤ 1000000000000000) (H : Hp (ahd evLt) z h) : Calls Try.prog 52 #[.pointer (some ⟨p, 0, none⟩)] w fun e w' => e = .returned (evTopV (h.getD 0 z).1 true) ∧ ∃ n h', Pil 97 101 12 evC w' p base (.slice (some ⟨g, 0, none⟩) n cap) h' t ∧ h'.Perm (cutt z h) ∧ Hp (ahd evLt) z h' ∧ Gb p (.slice (some ⟨g, 0, none⟩) h.length cap) w w' := by
  have B := galloc (Below.refl w.heap.size w) (.cells #[.int .i64 0, .int .u64 0, .int .i64 0, .int .i64 0, .int .i64 0, .int .i64 0, .int .i64 0, .int .i64 0, .int .i64 0, .int .i64 0, .int .i64 0] 47)
  have b1 := Bk.new w #[.int .i64 0, .int .u64 0, .int .i64 0, .int .i64 0, .int .i64 0, .int .i64 0, .int .i64 0, .int .i64 0, .int .i64 0, .int .i64 0, .int .i64 0] 47
  obtain ⟨x, hx⟩ : ∃ x, h.getD 0 z = x := ⟨_, rfl⟩
  rw [hx]
  have hgl := (World.ownsRow.lt P.own g rfl).2
  have hpl := P.blk.lt
  go_enter Try.func52, Try.ntmps52
  go_upto_region 1 with fail
  generalize w.alloc _ = V at *
  have P1 : Pil 97 101 12 evC V p base (.slice (some ⟨g, 0, none⟩) h.length cap) h t := ⟨P.blk.keep B, own_keep P.own B, P.pb⟩
  have c1 := evPeek_some p base g cap t h z V P1 h0
  rw [hx] at c1
  clear hx
  have s1 : (evC x.1).all (·.oneCell') = true := by simp [evC, Value.oneCell']
  unfold evTopV at *
  go_wp2_with (first
    | (go_at_call 53; (with_reducible refine c1.mono ?_); rintro e u ⟨rfl, g1⟩; have hzu := (gtrans B g1).size; have bz := Bk.new u #[.int .i64 0, .int .u64 0, .int .i64 0, .int .i64 0, .int .i64 0, .int .i64 0, .int .i64 0, .int .i64 0, .int .i64 0, .int .i64 0, .int .i64 0] 47; have th := bz.there; have b4 := bz.setCells (cs' := evC x.1) rfl; have G4 := gsetCells (galloc (Below.refl u.heap.size u) (.cells #[.int .i64 0, .int .u64 0, .int .i64 0, .int .i64 0, .int .i64 0, .int .i64 0, .int .i64 0, .int .i64 0, .int .i64 0, .int .i64 0, .int .i64 0] 47)) (Nat.le_refl _) (evC x.1).toList 0; generalize hX : (u.alloc (.cells #[.int .i64 0, .int .u64 0, .int .i64 0, .int .i64 0, .int .i64 0, .int .i64 0, .int .i64 0, .int .i64 0, .int .i64 0, .int .i64 0, .int .i64 0] 47)).setCells u.heap.size 0 (evC x.1).toList = X at *; have G5 := gtrans B (gtrans g1 G4); have P5 : Pil 97 101 12 evC X p base (.slice (some ⟨g, 0, none⟩) h.length cap) h t := ⟨P.blk.keep G5, own_keep P.own G5, P.pb⟩; have b5 := b1.keep (gtrans g1 G4); have c2 := evCut p base g cap t h z h0 X P5 hl)
    | (refine wpList_store_mid rfl 47 _ _ rfl u.heap.size 0 (evC x.1) rfl rfl th infoEv s1 ?_; rw [hX])
    | (go_at_call 57; (with_reducible refine c2.mono ?_); rintro e u2 ⟨rfl, P6, G6⟩; have c3 := evDown p base g cap t (cutt z h) z u2 P6 (by rw [cutt_len]; omega) (cutt_dn H))
    | (go_at_call 58; (with_reducible refine c3.mono ?_); rintro e u3 ⟨rfl, h', P7, hp7, H7, G7⟩; have G8 := G6.trans G7 (fun k e => .inl e); have n1 : u.heap.size ≠ p := (by omega); have n2 := own_ne (g := g) (b := u.heap.size) h.length cap (by omega); have n3 : w.heap.size ≠ p := (by omega); have n4 := own_ne (g := g) (b := w.heap.size) h.length cap hgl; have b7 := G8.bk b4 n1 n2; have r7 := b7.range; have b8 := G8.bk b5 n3 n4; have th8 := b8.there; have b9 := b8.setCells (cs' := evC x.1) rfl; generalize hX2 : u3.setCells w.heap.size 0 (evC x.1).toList = X2 at *)
    | (refine wpList_load_mid rfl 47 _ rfl u.heap.size 0 rfl (evC x.1).toList _ r7 Try.underlying47 rfl infoEv ?_)
    | (refine wpList_store_mid rfl 47 _ _ rfl w.heap.size 0 (evC x.1) rfl rfl th8 infoEv s1 ?_; rw [hX2]))
  refine bodyPost_ret (results_row_tmp rfl _ _ w.heap.size 47 (evC x.1) (0, 0) _ rfl b9 Try.underlying47 rfl infoEv) rfl ⟨rfl, (cutt z h).length, h', ⟨?_, ?_, P7.pb⟩, hp7, H7, ?_⟩
  · rw [← hX2]; exact (setCells_blk _ _ _ _ p (by omega)).trans P7.blk
  · rw [← hX2]; exact own_of_block P7.own fun k cur hb hh => setCells_blk _ _ _ _ k (fun e => by subst e; rw [show u3.heap[w.heap.size]? = _ from b8] at hh; simp at hh)
  · have e := setCells_os w.heap.size (evC x.1).toList 0 u3
    have ez := setCells_size w.heap.size (evC x.1).toList 0 u3
    rw [hX2] at e ez
    exact ⟨e.1.trans (G8.os.trans G5.os), e.2.1.trans (G8.tape.trans G5.tape), e.2.2.trans (G8.output.trans G5.output), by rw [ez]; exact Nat.le_trans G5.size G8.size, fun k k1 k2 k3 => by
      rw [← hX2]
      exact (setCells_blk _ _ _ _ k (by omega)).trans ((G8.blk k (Nat.lt_of_lt_of_le k1 G5.size) k2 k3).trans (G5.block k k1))⟩

end Go.Proofs.Ythjnkcapjhelgaa
