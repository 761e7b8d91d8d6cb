/- drain. -/
import Derived.Test.YthjnkcapjhelgaaHpj
import Derived.Test.YthjnkcapjhelgaaHpm
namespace Go.Proofs.Ythjnkcapjhelgaa
open Go.RowKit Go.BigFrame
set_option linter.unusedVariables false
set_option linter.unusedSimpArgs false

def slLen : Value → Nat
  | .slice _ n _ => n
  | _ => 0
theorem nfEv : (Try.prog.info? 47).map (fun i => (i.zero, i.size, i.bytes)) = some (some (.agg (evC zrEv)), 11, 88) := by kernel_rfl
theorem evBuildE (x : Ev) (w : World) : (Instr.buildSlice 39 1 #[(0, .agg (evC x))]).run Try.prog w = .ok (.slice (some ⟨w.heap.size, 0, none⟩) 1 1) (w.alloc (.cells (evC x) 47)) := by kernel_rfl
theorem ev_ones1 (x : Ev) : ∀ u ∈ (evC x).toList, u.oneCell' = true := by
  intro u hu
  simp [evC] at hu
  rcases hu with rfl | rfl | rfl | rfl | rfl | rfl | rfl | rfl | rfl | rfl | rfl <;> rfl
theorem ev_one1 (x : Ev) : (evC x).all (·.oneCell') = true := by simp [evC, Value.oneCell']
theorem drop_headD {γ : Type} (L : List γ) (z : γ) (k : Nat) : (L.drop k).headD z = L.getD k z := by
  simp [List.headD_eq_head?_getD, List.head?_drop, List.getD_eq_getElem?_getD]
theorem drop_lt {γ : Type} (L : List γ) (k : Nat) : decide (0 < (L.drop k).length) = decide (k < L.length) := by
  rw [List.length_drop]
  exact decide_eq_decide.2 (by omega)
/-- What holds at the head of drain's loop. -/
structure evDr (w : World) (p base : Nat) (v : Value) (L : List (Ev × Nat)) (t : Nat) (vo vx vb : Value) (wr : World) : Prop where
  ex : ∃ (k bx : Nat) (v' : Value), k ≤ L.length ∧ vo = .slice (some ⟨w.heap.size, 0, none⟩) k L.length ∧ vx = .pointer (some ⟨bx, 0, none⟩) ∧ vb = .bool (decide (k < L.length)) ∧ w.heap.size < bx ∧ Bk wr bx (evC (L.getD k (zrEv, 0)).1) 47 ∧ wr.ownsRow w.heap.size 47 11 (.slice (some ⟨w.heap.size, 0, none⟩) k L.length) k (fl evC ((L.take k).map Prod.fst)) ∧ evPa wr p base v' (L.drop (k + 1)) t ∧ Gb p v w wr ∧ (∀ g, v'.ownBlock = some g → v.ownBlock = some g)
set_option maxRecDepth 100000 in
set_option maxHeartbeats 4000000 in
theorem evDrain (p base t : Nat) (v : Value) (L : List (Ev × Nat)) (w : World) (P : evPa w p base v L t) (hl : L.length * 88 ≤ 281474976710656) : Calls Try.prog 47 #[.pointer (some ⟨p, 0, none⟩)] w fun e w' => e = .returned (.slice (some ⟨w.heap.size, 0, none⟩) L.length L.length) ∧ w'.ownsRow w.heap.size 47 11 (.slice (some ⟨w.heap.size, 0, none⟩) L.length L.length) L.length (fl evC (L.map Prod.fst)) ∧ Gb p v w w' := by
  have hl15 : L.length ≤ 1000000000000000 := by omega
  have hpl := P.blk.lt
  have hvl : ∀ g, v.ownBlock = some g → g < w.heap.size := fun g e => by obtain ⟨xs, O⟩ := P.row; exact (World.ownsRow.lt O g e).2
  have cL := evLenA p base t v L w P
  obtain ⟨M, hM, hmk⟩ := run_make_cap (P := Try.prog) 39 47 Try.underlying39 nfEv L.length (by omega) (by omega)
  have B0 := galloc (Below.refl w.heap.size w) (.cells M 47)
  have O0 := World.ownsRow_made (base := w.heap.size) (e := 47) (size := 11) w M L.length (Nat.le_refl _) (by unfold maxLen; omega) hM
  have c0 := evPopA p base t v L _ (P.keep B0) hl15
  have hz0 : (w.alloc (.cells M 47)).heap.size = w.heap.size + 1 := by simp
  generalize hW0 : w.alloc (.cells M 47) = W0 at *
  have hmk' := hmk w
  rw [hW0] at hmk'
  clear hmk
  unfold evTopV at *
  obtain ⟨x0, hx0⟩ : ∃ x0, (L.headD (zrEv, 0)).1 = x0 := ⟨_, rfl⟩
  obtain ⟨b0, hb0⟩ : ∃ b0, decide (0 < L.length) = b0 := ⟨_, rfl⟩
  rw [hx0, hb0] at c0
  have s0 := ev_one1 x0
  obtain ⟨i3, ti, tz0, tz1, tz2⟩ := nf_info nfEv
  go_enter Try.func47, Try.ntmps47
  go_upto_region 3 with (first
    | (go_at_call 32; (with_reducible refine cL.mono ?_); rintro e u ⟨rfl, hu⟩; have hu' := hu.symm; subst hu')
    | (go_at_call 52; (with_reducible refine c0.mono ?_); rintro e u ⟨rfl, v1, P1, G1, V1⟩; have bz := Bk.new u #[.int .i64 0, .int .u64 0, .int .i64 0, .int .i64 0, .int .i64 0, .int .i64 0, .int .i64 0, .int .i64 0, .int .i64 0, .int .i64 0, .int .i64 0] 47; have th := bz.there; have b4 := bz.setCells (cs' := evC x0) rfl; have G4 := gsetCells (galloc (Below.refl u.heap.size u) (.cells #[.int .i64 0, .int .u64 0, .int .i64 0, .int .i64 0, .int .i64 0, .int .i64 0, .int .i64 0, .int .i64 0, .int .i64 0, .int .i64 0, .int .i64 0] 47)) (Nat.le_refl _) (evC x0).toList 0; generalize hX : (u.alloc (.cells #[.int .i64 0, .int .u64 0, .int .i64 0, .int .i64 0, .int .i64 0, .int .i64 0, .int .i64 0, .int .i64 0, .int .i64 0, .int .i64 0, .int .i64 0] 47)).setCells u.heap.size 0 (evC x0).toList = X at *)
    | (refine wpList_store_mid rfl 47 _ _ rfl u.heap.size 0 (evC x0) rfl rfl th infoEv s0 ?_; rw [hX]))
  have hnu : w.heap.size < u.heap.size := by have := G1.size; omega
  have G5 : Gb p v w X := ((Gb.of B0).trans' G1).below G4
  have PX := P1.keep G4
  have OX : X.ownsRow w.heap.size 47 11 (.slice (some ⟨w.heap.size, 0, none⟩) 0 L.length) 0 [] := own_keep (own_of_block O0 fun g cur hb hh => G1.blk g (lt_of_block hh) (by omega) (fun e => by have := hvl g e; omega)) G4
  go_loopw [3, 4, 5] (fun vo vx vb wr => evDr w p base v L t vo vx vb wr) (fun vo _ _ _ => L.length - slLen vo)
  case atStart =>
    refine ⟨0, u.heap.size, v1, Nat.zero_le _, rfl, rfl, by rw [hb0], hnu, ?_, OX, ?_, G5, V1⟩
    · have e : (L.getD 0 (zrEv, 0)).1 = x0 := by rw [← hx0]; cases L <;> rfl
      rw [e]; exact b4
    · simpa using PX
  case round =>
    obtain ⟨k, bx, v', hk, rfl, rfl, rfl, hbx, b5, O5, P5, G6, V6⟩ := hrel
    clear c0 cL hmk' O0 OX PX G5 b4 th bz
    by_cases hlt : k < L.length
    · have d1 : decide (k < L.length) = true := by simp [hlt]
      rw [d1]
      obtain ⟨x, hx⟩ : ∃ x, (L.getD k (zrEv, 0)).1 = x := ⟨_, rfl⟩
      rw [hx] at b5
      have HX : Hid ((L.getD k (zrEv, 0)).1 = x) := hx
      have rx := b5.range
      have sx := ev_one1 x
      have hbs := evBuildE x wr
      have bn := Bk.new wr (evC x) 47
      have hnews := World.news_of_block bn
      have hA := galloc (Below.refl wr.heap.size wr) (.cells (evC x) 47)
      have OA := O5.alloc (.cells (evC x) 47)
      generalize hWA : wr.alloc (.cells (evC x) 47) = WA at *
      have HL : Hid (k < L.length) := hlt
      have HV : Hid (∀ g, v.ownBlock = some g → g < w.heap.size) := hvl
      have HV6 : Hid (∀ g, v'.ownBlock = some g → v.ownBlock = some g) := V6
      have hkc : k + 1 ≤ L.length := by omega
      clear hx d1 hlt hvl V6 hb0 hx0 P hW0 B0 hM hz0 s0 hX G1 V1 P1 G4 hnu hWA
      go_upto_region 5 with fail
      go_upto_region 6 with (first
        | (refine wpList_load_mid rfl 47 _ rfl bx 0 rfl (evC x).toList _ rx Try.underlying47 rfl infoEv ?_; refine wpList_build1 rfl (.tmp 21) rfl rfl hbs ?_; refine wpList_append_own_spare _ rfl (.tmp 20) (.tmp 22) 39 rfl w.heap.size 47 i3 11 Try.underlying39 ti tz1 w.heap.size k L.length _ rfl OA ⟨wr.heap.size, 0, none⟩ 1 1 (evC x).toList rfl rfl hnews (ev_ones1 x) hkc ?_; intro w1 O6 G7))
      have hvl : ∀ g, v.ownBlock = some g → g < w.heap.size := HV
      have V6 : ∀ g, v'.ownBlock = some g → v.ownBlock = some g := HV6
      have hlt : k < L.length := HL
      have hws := G6.size
      have b6 : Bk w1 bx (evC x) 47 := (G7.block bx (b5.keep hA).lt (by simp; omega)).trans (b5.keep hA)
      have P6 := (P5.keep hA).far OA (by decide) (by decide) G7
      have r6 := b6.range
      have bz := Bk.new w1 #[.int .i64 0, .int .u64 0, .int .i64 0, .int .i64 0, .int .i64 0, .int .i64 0, .int .i64 0, .int .i64 0, .int .i64 0, .int .i64 0, .int .i64 0] 47
      have th := bz.there
      have b7 := bz.setCells (cs' := evC x) rfl
      have G8 := gsetCells (galloc (Below.refl w1.heap.size w1) (.cells #[.int .i64 0, .int .u64 0, .int .i64 0, .int .i64 0, .int .i64 0, .int .i64 0, .int .i64 0, .int .i64 0, .int .i64 0, .int .i64 0, .int .i64 0] 47)) (Nat.le_refl _) (evC x).toList 0
      generalize hX3 : (w1.alloc (.cells #[.int .i64 0, .int .u64 0, .int .i64 0, .int .i64 0, .int .i64 0, .int .i64 0, .int .i64 0, .int .i64 0, .int .i64 0, .int .i64 0, .int .i64 0] 47)).setCells w1.heap.size 0 (evC x).toList = X3 at *
      have hw1 : w.heap.size < w1.heap.size := by have := G7.size; have := hA.size; have := O5; have := lt_of_block b5; omega
      have c9 := evPopA p base t v' (L.drop (k + 1)) X3 (P6.keep G8) (by rw [List.length_drop]; omega)
      rw [drop_headD, drop_lt, List.tail_drop] at c9
      obtain ⟨y, hy⟩ : ∃ y, (L.getD (k + 1) (zrEv, 0)).1 = y := ⟨_, rfl⟩
      obtain ⟨bb, hbb⟩ : ∃ bb, decide (k + 1 < L.length) = bb := ⟨_, rfl⟩
      rw [hy, hbb] at c9
      unfold evTopV at c9
      have HY : Hid ((L.getD (k + 1) (zrEv, 0)).1 = y) := hy
      have HBB : Hid (decide (k + 1 < L.length) = bb) := hbb
      have sy := ev_one1 y
      have n1 : w1.heap.size ≠ p := by omega
      have n2 : v'.ownBlock ≠ some w1.heap.size := fun e => by have := hvl _ (V6 _ e); omega
      clear hy hbb hvl V6 hlt
      go_wp2_with (first
        | (refine wpList_load_mid rfl 47 _ rfl bx 0 rfl (evC x).toList _ r6 Try.underlying47 rfl infoEv ?_)
        | (refine wpList_store_mid rfl 47 _ _ rfl w1.heap.size 0 (evC x) rfl rfl th infoEv sx ?_; rw [hX3])
        | (go_at_call 52; (with_reducible refine c9.mono ?_); rintro e u2 ⟨rfl, v2, P9, G9, V9⟩; have b9 := G9.bk b7 n1 n2; have th9 := b9.there; have b10 := b9.setCells (cs' := evC y) rfl; generalize hX4 : u2.setCells w1.heap.size 0 (evC y).toList = X4 at *)
        | (refine wpList_store_mid rfl 47 _ _ rfl w1.heap.size 0 (evC y) rfl rfl th9 infoEv sy ?_; rw [hX4]))
      go_roundw
      case rel =>
        have hvl : ∀ g, v.ownBlock = some g → g < w.heap.size := HV
        have V6 : ∀ g, v'.ownBlock = some g → v.ownBlock = some g := HV6
        have hlt : k < L.length := HL
        have hx : (L.getD k (zrEv, 0)).1 = x := HX
        have hy : (L.getD (k + 1) (zrEv, 0)).1 = y := HY
        refine ⟨k + 1, w1.heap.size, v2, by omega, rfl, rfl, by rw [show decide (k + 1 < L.length) = bb from HBB], hw1, by rw [hy]; exact b10, ?_, ?_, ?_, fun g e => V6 g (V9 g e)⟩
        · rw [← hX4]
          have O7 : w1.ownsRow w.heap.size 47 11 (.slice (some ⟨w.heap.size, 0, none⟩) (k + 1) L.length) (k + 1) (fl evC ((L.take (k + 1)).map Prod.fst)) := by
            rw [take_snoc L (zrEv, 0) k hlt, List.map_append, fl_app]
            rw [List.map_cons, List.map_nil, hx]
            simpa [fl] using O6
          refine own_same (own_keep O7 G8) fun g e => ?_
          obtain rfl : w.heap.size = g := by simpa [Value.ownBlock] using e
          exact (setCells_blk _ _ _ _ _ (by omega)).trans (G9.blk _ (by have := G8.size; omega) (by omega) (fun e => by have := hvl _ (V6 _ e); omega))
        · rw [← hX4]
          refine P9.same (setCells_blk _ _ _ _ p (by omega)) fun g e => setCells_blk _ _ _ _ g (by have := hvl _ (V6 _ (V9 g e)); omega)
        · rw [← hX4]
          exact ((((G6.below hA).grown G7 (Nat.le_refl _)).below G8).trans G9 (fun g e => .inl (V6 g e))).setCells (by omega) _ _
      case measure => simp [slLen]; omega
    · have d1 : decide (k < L.length) = false := by simp; omega
      obtain rfl : k = L.length := by omega
      rw [d1]
      have HO : Hid (wr.ownsRow w.heap.size 47 11 (.slice (some ⟨w.heap.size, 0, none⟩) L.length L.length) L.length (fl evC (L.map Prod.fst))) := by
        rw [List.take_length] at O5
        exact O5
      clear O5 d1 hlt
      go_wp2
      go_ret
      exact ⟨rfl, HO, G6⟩

end Go.Proofs.Ythjnkcapjhelgaa
